/-
  Package binom, walked: Of, check, Mod, inFactorial, Times; the document's ChooseOf and Often.
-/
import Derived.Test.YtgmhbkfjabmkgaaGma
import Derived.Test.YtgmhbkfjabmkgaaGnu
namespace Go.Proofs.Ytgmhbkfjabmkgaa
open Go.RowKit
open Eu Pr Rs Bi


-- check.
/-- What Mod and Times take. -/
def OkB (n k p : Int) : Prop := 0 ≤ n ∧ n ≤ 1000000000 ∧ 0 ≤ k ∧ k ≤ n ∧ p ≤ 1000 ∧ Prm p

-- The document's choice.
set_option maxHeartbeats 1000000 in
theorem chooseOf_out (n k : Int) (w : World) (hk : k < 0 ∨ n < k) : Calls Try.prog 33 #[.int .i64 n, .int .i64 k] w (Says (.int .i64 0) w) := by
  by_cases h : k < 0
  · go_enter Try.func33, Try.ntmps33
    go_wp2
    go_ret
    exact .same
  · have h2 : 0 ≤ k := by omega
    have h3 : n < k := by omega
    clear h hk
    go_enter Try.func33, Try.ntmps33
    go_wp2
    go_ret
    exact .same

set_option maxHeartbeats 1000000 in
theorem chooseOf_in (n k : Nat) (w : World) (hn : n ≤ 60) (hk : k ≤ n) : Calls Try.prog 33 #[.int .i64 n, .int .i64 k] w (Says (.int .i64 (ch n k : Nat)) w) := by
  have HT := Lib.hid (ch_min hk)
  obtain ⟨T, hT⟩ : ∃ T, ch n k = T := ⟨_, rfl⟩
  rw [hT] at HT ⊢
  clear hT
  obtain ⟨M, hM⟩ : ∃ M, min k (n - k) = M := ⟨_, rfl⟩
  have hM2 : M ≤ n := by omega
  have HM := Lib.hid hM
  rw [hM] at HT
  clear hM
  have gk1 : decide (n < k) = false := decide_eq_false (by omega)
  have gk2 : decide ((k : Int) < 0) = false := decide_eq_false (by omega)
  go_enter Try.func33, Try.ntmps33
  go_wp2
  go_loopg [5, 6] M (fun m v5 v6 wr => ∃ (i : Nat) (c : Int), i ≤ M ∧ v5 = .int .i64 c ∧ v6 = .int .i64 ((i : Int) + 1) ∧ Hid (c = (ch n i : Int)) ∧ Hid (m = M - i) ∧ Ex w wr)
  case atStart => exact ⟨0, 1, by omega, rfl, rfl, Lib.hid (by rw [ch_zero]; rfl), Lib.hid rfl, Ex.refl _⟩
  case round =>
    obtain ⟨i, c, hi, rfl, rfl, hc, hm, hw⟩ := hrel
    by_cases hlt : i < M
    · have hb := ch_prod (n := n) (i := i) hn (by omega)
      have hd := ch_div (n := n) (i := i) (by omega)
      have hb2 := ch_bound (n := n) (k := i) hn
      rw [← hc.out] at hb hd
      have es : (n : Int) - ((i : Int) + 1) + 1 = (n : Int) - i := by omega
      obtain ⟨p0, p1⟩ := hb
      rw [← es] at p0 p1 hd
      have HD := Lib.hid hd
      have HES := Lib.hid es
      have c0 : 0 ≤ c := by rw [hc.out]; omega
      have c1 : c ≤ 118264581564861424 := by rw [hc.out]; omega
      have q0 : 0 ≤ c * ((n : Int) - ((i : Int) + 1) + 1) / ((i : Int) + 1) := Int.ediv_nonneg p0 (by omega)
      have q1 : c * ((n : Int) - ((i : Int) + 1) + 1) / ((i : Int) + 1) ≤ 118264581564861424 := by
        have := ch_bound (n := n) (k := i + 1) hn
        omega
      clear hd hb2 es
      by_cases hs : k ≤ n - k
      · have hmk : M = k := by have := HM.out; omega
        have hs2 : (k : Int) ≤ (n : Int) - (k : Int) := by omega
        subst hmk
        go_wp2
        all_goals (first | omega | skip)
        all_goals
          go_roundg (M - (i + 1))
          case measure => have := hm.out; omega
          case rel => exact ⟨i + 1, _, by omega, rfl, by go_num, HD, Lib.hid rfl, hw⟩
      · have hmk : (M : Int) = (n : Int) - (k : Int) := by have := HM.out; omega
        have hs2 : ¬ (k : Int) ≤ (n : Int) - (k : Int) := by omega
        go_wp2
        all_goals (first | omega | skip)
        all_goals
          go_roundg (M - (i + 1))
          case measure => have := hm.out; omega
          case rel => exact ⟨i + 1, _, by omega, rfl, by go_num, HD, Lib.hid rfl, hw⟩
    · have e : i = M := by omega
      subst e
      have HF : Hid (c = (T : Int)) := Lib.hid (by rw [hc.out, HT.out])
      have hMi := HM.out
      by_cases hs : k ≤ n - k
      · have hs2 : (k : Int) ≤ (n : Int) - (k : Int) := by omega
        have hik : (i : Int) = (k : Int) := by omega
        have HIK := Lib.hid hik
        have g1 : ¬ (i : Int) + 1 ≤ (k : Int) := by omega
        clear hik hMi
        go_wp2
        all_goals
          go_ret
          exact ⟨by rw [HF.out]; rfl, hw⟩
      · have hs2 : ¬ (k : Int) ≤ (n : Int) - (k : Int) := by omega
        have g1 : ¬ (i : Int) + 1 ≤ (n : Int) - (k : Int) := by omega
        clear hMi
        go_wp2
        all_goals
          go_ret
          exact ⟨by rw [HF.out]; rfl, hw⟩

end Go.Proofs.Ytgmhbkfjabmkgaa
