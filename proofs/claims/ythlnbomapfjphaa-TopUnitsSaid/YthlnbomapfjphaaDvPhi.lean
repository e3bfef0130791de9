/-
  Phi, walked.
-/
import Derived.Test.YthlnbomapfjphaaDvStep
namespace Go.Proofs.Ythlnbomapfjphaa
open Go.RowKit
open Pr Dd

set_option maxRecDepth 100000 in
set_option maxHeartbeats 2000000 in
theorem phi_of (n : Nat) (w : World) (h1 : 1 ≤ n) (h2 : n ≤ 1000000) :
    Calls Try.prog 33 #[.int .i64 n] w (Says (.tuple #[.int .i64 (ph n), .int .i64 0]) w) := by
  go_enter Try.func33, Try.ntmps33
  go_wp2_with (go_at_call 71; refine (factor_reads n _ (by omega) (by omega)).mono ?_; rintro e w1 ⟨a, cap, l, rfl, hF, hl, hr, hx1⟩)
  have hll := hl.out
  have HX1 := Lib.hid hx1
  go_loopg [6, 20] l.length (fun k v6 v20 x => ∃ (i : Nat) (c : Int), i ≤ l.length ∧ 0 ≤ c ∧ c ≤ n ∧ v20 = .int .i64 i ∧ v6 = .int .i64 c ∧ Hid (PhiAt l i c) ∧ Hid (k = l.length - i) ∧ Ex w1 x)
  case atStart => exact ⟨0, n, by omega, by omega, by omega, rfl, rfl, Lib.hid (phiAt_start h1 hF.out), Lib.hid rfl, Ex.refl w1⟩
  case round =>
    obtain ⟨i, c, hi, c1, c2, rfl, rfl, hP, hk, hx⟩ := hrel
    by_cases hlt : i < l.length
    · rcases (hr.out.ex hx) with ⟨rfl, rfl, rfl⟩ | ⟨g, rfl, hc⟩
      · exact absurd hlt (Nat.not_lt_zero _)
      have hc0 := (hc i hlt).1
      have hc1 := (hc i hlt).2
      clear hc
      obtain ⟨b1, b2, b3, b4, hP2⟩ := phiAt_step hP.out hlt
      have HP2 := Lib.hid hP2
      obtain ⟨K, hK⟩ : ∃ K : Nat, (nthP l i).2 = K := ⟨_, rfl⟩
      obtain ⟨q, hq⟩ : ∃ q : Int, (nthP l i).1 = q := ⟨_, rfl⟩
      rw [hK] at hc1
      rw [hq] at hc0 b1 b3 b4 HP2
      have q1 := Int.ediv_nonneg (a := c) (b := q) c1 (by omega)
      have q2 := Int.ediv_le_self (a := c) q c1
      have HX2 := Lib.hid (hx.alloc (.cells #[.int .i64 q, .int .i64 (K : Nat)] 111))
      clear hP2 hK hq
      go_wp2
      go_roundg (l.length - (i + 1))
      case measure => have := hk.out; omega
      case rel => exact ⟨i + 1, c - c / q, by omega, b3, by omega, by go_num, rfl, HP2, Lib.hid rfl, HX2.out⟩
    · have e : i = l.length := by omega
      subst e
      have he := phiAt_end hP.out
      have HE : Hid (c = ph n) := Lib.hid (by rw [he, ph_fac hF.out h1])
      clear he
      go_wp2
      go_ret2
      exact ⟨by rw [HE.out]; rfl, HX1.out.trans hx⟩

theorem phi_no (n : Int) (w : World) (h : n < 1 ∨ 1000000 < n) :
    Calls Try.prog 33 #[.int .i64 n] w (Says (.tuple #[.int .i64 0, .int .i64 1]) w) := by
  go_enter Try.func33, Try.ntmps33
  go_wp2_with (go_at_call 71; refine (factor_no n _ h).mono ?_; rintro e w1 ⟨rfl, hx1⟩)
  go_ret2
  exact ⟨rfl, hx1⟩

end Go.Proofs.Ythlnbomapfjphaa
