/-
  wholeref.Ones and High.
-/
import Derived.Test.YtjccpfpldbjcbaaU16
namespace Go.Proofs.Ytjccpfpldbjcbaa
open Go.RowKit
open Ln

set_option maxHeartbeats 1000000 in
theorem ones_any (v : Nat) (w : World) (hv : v < 65536) : Calls Try.prog 23 #[.int .i64 (v : Int)] w (Says (.int .i64 ((on 16 v : Nat) : Int)) w) := by
  go_enter Try.func23, Try.ntmps23
  go_wp2
  go_loopg [3, 5] 16 (fun k v3 v5 wr => ∃ i o : Nat, i ≤ 16 ∧ o ≤ i ∧ v3 = .int .i64 (o : Int) ∧ v5 = .int .i64 (i : Int) ∧ Hid (o = on i v) ∧ Hid (k = 16 - i) ∧ w = wr)
  case atStart => exact ⟨0, 0, by omega, by omega, rfl, rfl, Lib.hid rfl, Lib.hid rfl, rfl⟩
  case round =>
    obtain ⟨i, o, hi, ho, rfl, rfl, hon, hk, rfl⟩ := hrel
    by_cases hlt : i < 16
    · have hb := bt_int i v (by omega)
      have hb2 : bt i v ≤ 1 := by have := bt_two i v; omega
      obtain ⟨b, hbb⟩ : ∃ b, bt i v = b := ⟨_, rfl⟩
      rw [hbb] at hb hb2
      have HB := Lib.hid hbb
      have HV := Lib.hid hb
      clear hb hbb
      go_wp2
      go_roundg (16 - (i + 1))
      case measure => have := hk.out; omega
      case rel =>
        refine ⟨i + 1, o + b, by omega, by omega, ?_, by go_num, Lib.hid (by rw [on_top, HB.out, hon.out]), Lib.hid rfl, rfl⟩
        rw [HV.out]
        exact congrArg (Value.int .i64) ((IntWalk.wrap64_in _ (by omega)).trans (by omega))
    · have e : i = 16 := by omega
      subst e
      have HO := hon
      go_wp2
      go_ret
      exact ⟨by rw [HO.out]; rfl, Ex.refl _⟩

end Go.Proofs.Ytjccpfpldbjcbaa
