/-
  Package chinese, walked: isModulus, Check, add, Join.
-/
import Derived.Test.YthlnbomapfjphaaGpr
import Derived.Test.YthlnbomapfjphaaGnu
import Derived.Test.YthlnbomapfjphaaGro
namespace Go.Proofs.Ythlnbomapfjphaa
open Go.RowKit
open Eu Rs Ch

set_option maxHeartbeats 400000 in
theorem cmod_yes (m : Int) (w : World) (h1 : 1 ≤ m) (h2 : m ≤ 1000) :
    Calls Try.prog 112 #[.int .i64 m] w fun e w' => e = .returned (.bool true) ∧ w = w' := by
  go_enter Try.func112, Try.ntmps112
  go_wp2
  go_ret
  exact ⟨rfl, rfl⟩

set_option maxHeartbeats 400000 in
theorem cmod_no (m : Int) (w : World) (h : m < 1 ∨ 1000 < m) :
    Calls Try.prog 112 #[.int .i64 m] w fun e w' => e = .returned (.bool false) ∧ w = w' := by
  rcases h with h | h
  · go_enter Try.func112, Try.ntmps112
    go_wp2
    go_ret
    exact ⟨by first | rfl | (simp; done) | (simp; omega), rfl⟩
  · have h2 : 1 ≤ m := by omega
    go_enter Try.func112, Try.ntmps112
    go_wp2
    go_ret
    exact ⟨by first | rfl | (simp; done) | (simp; omega), rfl⟩

theorem chk_big {l : List (Int × Int)} (h : 6 < l.length) : chk l = 2 := by unfold chk; rw [if_pos h]
theorem chk_bad {l : List (Int × Int)} (h : l.length ≤ 6) {i : Nat} (hi : i < l.length) (hb : ¬ OkR (nthR l i)) : chk l = 1 := by
  unfold chk
  rw [if_neg (by omega), if_pos]
  refine List.any_eq_true.mpr ⟨_, nthR_mem hi, ?_⟩
  cases h2 : badR (nthR l i)
  · exact absurd ((badR_iff _).mp h2) hb
  · rfl
theorem chk_ok {l : List (Int × Int)} (h : l.length ≤ 6) (ha : ∀ j, j < l.length → OkR (nthR l j)) : chk l = 0 := chk_zero.mpr ⟨h, fun r hr => by
  obtain ⟨j, hj, rfl⟩ := List.getElem_of_mem hr
  have := ha j hj
  rwa [nthR_eq hj] at this⟩

set_option maxHeartbeats 1000000 in
theorem check_any (l : List (Int × Int)) (a : Option Addr) (cap : Nat) (w : World) (hl : l.length ≤ 140737488355328) (hr : ReadsR w a l) :
    Calls Try.prog 76 #[.slice a l.length cap] w (Says (.int .i64 (chk l)) w) := by
  by_cases h6 : 6 < l.length
  · rw [chk_big h6]
    clear hr
    go_enter Try.func76, Try.ntmps76
    go_wp2
    go_ret
    exact .same
  · rcases hr with rfl | ⟨b, off, rfl, hc⟩
    · have e : chk [] = 0 := rfl
      rw [e]
      go_enter Try.func76, Try.ntmps76
      go_wp2
      refine wp_loop_rounds 1 ?_
      rw [rounds_succ]
      go_wp2
      go_ret
      exact .same
    · have HC := Lib.hid hc
      have h7 : l.length ≤ 6 := by omega
      clear hc h6
      go_enter Try.func76, Try.ntmps76
      go_wp2
      go_loopg [10] l.length (fun k v10 wr => ∃ i : Nat, i ≤ l.length ∧ v10 = .int .i64 i ∧ Hid (k = l.length - i) ∧ Hid (∀ j, j < i → OkR (nthR l j)) ∧ Ex w wr)
      case atStart => exact ⟨0, Nat.zero_le _, rfl, Lib.hid rfl, Lib.hid (fun j hj => absurd hj (Nat.not_lt_zero _)), Ex.refl _⟩
      case round =>
        obtain ⟨i, hi, rfl, hk, hn, hw⟩ := hrel
        by_cases hlt : i < l.length
        · have hc0 := hw.cell (HC.out i hlt).1
          have hc1 := hw.cell (HC.out i hlt).2
          obtain ⟨x, hx⟩ : ∃ x, nthR l i = x := ⟨_, rfl⟩
          have HX := Lib.hid hx
          rw [hx] at hc0 hc1
          obtain ⟨r, m⟩ := x
          simp only at hc0 hc1
          clear hx
          by_cases hm : m < 1 ∨ 1000 < m
          · have HB : Hid (chk l = 1) := Lib.hid (chk_bad h7 hlt (by rw [HX.out]; unfold OkR; simp only; omega))
            go_wp2_with (
              (go_at_call 112; refine (cmod_no _ _ hm).mono ?_; rintro e w' ⟨rfl, rfl⟩))
            go_ret
            exact ⟨by rw [HB.out]; rfl, (hw.alloc _)⟩
          · have m1 : 1 ≤ m := by omega
            have m2 : m ≤ 1000 := by omega
            clear hm
            by_cases hr0 : r < 0
            · have HB : Hid (chk l = 1) := Lib.hid (chk_bad h7 hlt (by rw [HX.out]; unfold OkR; simp only; omega))
              go_wp2_with (
                (go_at_call 112; refine (cmod_yes _ _ (by omega) (by omega)).mono ?_; rintro e w' ⟨rfl, rfl⟩))
              go_ret
              exact ⟨by rw [HB.out]; rfl, (hw.alloc _)⟩
            · by_cases hr1 : m ≤ r
              · have HB : Hid (chk l = 1) := Lib.hid (chk_bad h7 hlt (by rw [HX.out]; unfold OkR; simp only; omega))
                go_wp2_with (
                  (go_at_call 112; refine (cmod_yes _ _ (by omega) (by omega)).mono ?_; rintro e w' ⟨rfl, rfl⟩))
                go_ret
                exact ⟨by rw [HB.out]; rfl, (hw.alloc _)⟩
              · have HB : Hid (OkR (nthR l i)) := Lib.hid (by rw [HX.out]; unfold OkR; simp only; omega)
                go_wp2_with (
                  (go_at_call 112; refine (cmod_yes _ _ (by omega) (by omega)).mono ?_; rintro e w' ⟨rfl, rfl⟩))
                go_roundg (l.length - (i + 1))
                case measure => have := hk.out; omega
                case rel => exact ⟨i + 1, by omega, by go_num, Lib.hid rfl, Lib.hid (fun j hj => by
                  rcases Nat.lt_succ_iff_lt_or_eq.mp hj with h | h
                  · exact hn.out j h
                  · rw [h]; exact HB.out), hw.alloc _⟩
        · have e : i = l.length := by omega
          subst e
          have HB : Hid (chk l = 0) := Lib.hid (chk_ok h7 hn.out)
          go_wp2
          go_ret
          exact ⟨by rw [HB.out]; rfl, hw⟩

end Go.Proofs.Ythlnbomapfjphaa
