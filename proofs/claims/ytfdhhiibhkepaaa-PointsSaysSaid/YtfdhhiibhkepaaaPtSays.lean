/-
  PointsSays, walked.
-/
import Derived.Test.YtfdhhiibhkepaaaPtKeep
namespace Go.Proofs.Ytfdhhiibhkepaaa
open Go.RowKit
open Eu Pr Po Rs

set_option maxRecDepth 100000 in
set_option maxHeartbeats 1000000 in
theorem pointsSays_no (p : Int) (l : List (Int × Int)) (x : Int) (a : Option Addr) (cap : Nat) (w : World) (hcap : l.length ≤ cap) (hl : l.length ≤ 140737488355328) (hr : ReadsR w a l) (h : ptE p l ≠ 0) :
    Calls Try.prog 3 #[.int .i64 p, .slice a l.length cap, .int .i64 x] w (Says (.bool true) w) := by
  have HT := Lib.hid fun w2 (hx : Ex w w2) => through_no p l a cap w2 hcap hl (hr.ex hx) h
  have HA := Lib.hid fun w2 (hx : Ex w w2) => ptAt_no p l x a cap w2 hcap hl (hr.ex hx) h
  have HP := Lib.hid fun w2 (hx : Ex w w2) => pointsErr_any p l a cap w2 hl (hr.ex hx)
  have HC := Lib.hid fun w2 (hx : Ex w w2) => ptCheck_any p l a cap w2 hcap hl (hr.ex hx)
  obtain ⟨c, hc⟩ : ∃ c, ptE p l = c := ⟨_, rfl⟩
  rw [hc] at HT HA HP HC h
  have hb : (c != 0) = true := by simpa using h
  obtain ⟨L, hL⟩ : ∃ L, l.length = L := ⟨_, rfl⟩
  rw [hL] at HT HA HP HC hcap ⊢
  clear hr hl h hc hL
  go_enter Try.func3, Try.ntmps3
  go_wp2_with (first
    | (go_at_call 7; (with_reducible refine (HT.out _ (Ex.refl _)).mono ?_); rintro e w1 ⟨rfl, hw1⟩)
    | (go_at_call 8; (with_reducible refine (HA.out _ (by repeat (first | assumption | exact Ex.refl _ | refine Ex.trans ?_ (by assumption)))).mono ?_); rintro e w2 ⟨rfl, hw2⟩)
    | (go_at_call 9; (with_reducible refine (HP.out _ (by repeat (first | assumption | exact Ex.refl _ | refine Ex.trans ?_ (by assumption)))).mono ?_); rintro e w3 ⟨rfl, hw3⟩)
    | (go_at_call 10; (with_reducible refine (HC.out _ (by repeat (first | assumption | exact Ex.refl _ | refine Ex.trans ?_ (by assumption)))).mono ?_); rintro e w4 ⟨rfl, hw4⟩))
  go_ret
  exact ⟨rfl, (by repeat (first | assumption | exact Ex.refl _ | refine Ex.trans ?_ (by assumption)))⟩

set_option maxRecDepth 100000 in
set_option maxHeartbeats 1000000 in
theorem pointsSays_ok (p : Int) (l : List (Int × Int)) (x : Int) (a : Option Addr) (cap : Nat) (w : World) (hcap : l.length ≤ cap) (hr : ReadsR w a l) (h : ptE p l = 0) :
    Calls Try.prog 3 #[.int .i64 p, .slice a l.length cap, .int .i64 x] w (Says (.bool true) w) := by
  obtain ⟨hp, p9, l12, hP⟩ := ptE_zero.mp h
  have p2 := hp.1
  obtain ⟨F, hF⟩ := isTh_some hp hP
  have lF := hF.2.1
  have HT := Lib.hid fun w2 (hx : Ex w w2) => through_ok p l F a cap w2 hcap (hr.ex hx) h hF
  have HA := Lib.hid fun w2 (hx : Ex w w2) => ptAt_ok p l F x a cap w2 hcap (hr.ex hx) h hF
  have HAP := Lib.hid fun w2 (hx : Ex w w2) => atPoint_any p l F x a cap w2 (hr.ex hx) h hF
  have HP := Lib.hid fun w2 (hx : Ex w w2) => pointsErr_any p l a cap w2 (by omega) (hr.ex hx)
  have HC := Lib.hid fun w2 (hx : Ex w w2) => ptCheck_any p l a cap w2 hcap (by omega) (hr.ex hx)
  have HPE := Lib.hid fun (w2 : World) (b : Option Addr) (d : Nat) (hrb : Reads w2 .i64 b F) => polyErr_any p F b d w2 (by unfold maxLen; omega) hrb
  have HV := Lib.hid fun (y : Int) (w2 : World) (b : Option Addr) (d : Nat) (hrb : Reads w2 .i64 b F) => refValue_any p F y b d w2 p2 p9 hF.1.bnd (by omega) hrb
  rw [h] at HP HC
  rw [polyE_zero.mpr ⟨hp, p9, by omega, hF.1⟩] at HPE
  obtain ⟨y, hy⟩ : ∃ y, ev F x % p = y := ⟨_, rfl⟩
  rw [hy] at HA HAP
  obtain ⟨N, hN⟩ : ∃ N, F.length = N := ⟨_, rfl⟩
  rw [hN] at HT HPE HV lF
  have HEV : Hid (∀ i, i < l.length → ev F (px l i) % p = py l i) := Lib.hid fun i hi => by
    rw [emod_of_dvd (hF.2.2 i hi)]
    exact Int.emod_eq_of_lt (hP.1 i hi).2.1 (hP.1 i hi).2.2
  have HR := Lib.hid fun w2 (hx : Ex w w2) => hr.ex hx
  have hgt : ¬ ((l.length : Int) < (N : Int)) := by omega
  clear hr h hF hP hy hN hp
  go_enter Try.func3, Try.ntmps3
  go_wp2_with (first
    | (go_at_call 7; (with_reducible refine (HT.out _ (Ex.refl _)).mono ?_); rintro e w1 ⟨b1, d1, rfl, _, hr1, hn1, hw1⟩)
    | (go_at_call 8; (with_reducible refine (HA.out _ (by repeat (first | assumption | exact Ex.refl _ | refine Ex.trans ?_ (by assumption)))).mono ?_); rintro e w2 ⟨rfl, hw2⟩)
    | (go_at_call 9; (with_reducible refine (HP.out _ (by repeat (first | assumption | exact Ex.refl _ | refine Ex.trans ?_ (by assumption)))).mono ?_); rintro e w3 ⟨rfl, hw3⟩)
    | (go_at_call 10; (with_reducible refine (HC.out _ (by repeat (first | assumption | exact Ex.refl _ | refine Ex.trans ?_ (by assumption)))).mono ?_); rintro e w4 ⟨rfl, hw4⟩)
    | (go_at_call 11; (with_reducible refine (HPE.out _ _ _ (hr1.out.ex (by repeat (first | assumption | exact Ex.refl _ | refine Ex.trans ?_ (by assumption))))).mono ?_); rintro e w5 ⟨rfl, hw5⟩)
    | (go_at_call 12; (with_reducible refine (HAP.out _ (by repeat (first | assumption | exact Ex.refl _ | refine Ex.trans ?_ (by assumption)))).mono ?_); rintro e w6 ⟨rfl, hw6⟩))
  have h16 := hw2.trans (hw3.trans (hw4.trans (hw5.trans hw6)))
  have HX6 : Hid (Ex w w6) := Lib.hid (hw1.trans h16)
  have HR6 : Hid (Reads w6 .i64 b1 F) := Lib.hid (hr1.out.ex h16)
  clear h16
  clear hr1 hw1 hw2 hw3 hw4 hw5 hw6
  go_loopg [83] l.length (fun k vSLOT x => ∃ i : Nat, i ≤ l.length ∧ vSLOT = .int .i64 i ∧ Hid (k = l.length - i) ∧ Ex w6 x)
  case atStart => exact ⟨0, by omega, rfl, Lib.hid rfl, Ex.refl _⟩
  case round =>
    obtain ⟨i, hi, rfl, hk, hx⟩ := hrel
    by_cases hlt : i < l.length
    · rcases HR.out _ (HX6.out.trans hx) with hn | ⟨b, off, rfl, hc⟩
      · rw [hn] at hlt; exact absurd hlt (Nat.not_lt_zero _)
      have hc0 := (hc i hlt).1
      have hc1 := (hc i hlt).2
      have HEi := Lib.hid (HEV.out i hlt)
      obtain ⟨u, hu⟩ : ∃ u, px l i = u := ⟨_, rfl⟩
      obtain ⟨v, hv⟩ : ∃ v, py l i = v := ⟨_, rfl⟩
      rw [show (nthR l i).1 = u from hu] at hc0
      rw [show (nthR l i).2 = v from hv] at hc1
      rw [hu, hv] at HEi
      have hxa := hx.alloc (.cells #[.int .i64 u, .int .i64 v] 33)
      have HVQ : Hid (∀ x : Wo (wr.alloc (.cells #[.int .i64 u, .int .i64 v] 33)), Calls Try.prog 13 #[.int .i64 p, .slice b1 N d1, .int .i64 u] x.val (Says (.int .i64 v) x.val)) := Lib.hid fun x => by
        have := HV.out u x.val b1 d1 (HR6.out.ex (hxa.trans x.ex))
        rw [HEi.out] at this
        exact this
      have q0 : ∀ x : Wo (wr.alloc (.cells #[.int .i64 u, .int .i64 v] 33)), x.val.cell? ⟨wr.heap.size, 0, none⟩ = some (.int .i64 u) := fun x => x.ex.cell (by simp)
      have q1 : ∀ x : Wo (wr.alloc (.cells #[.int .i64 u, .int .i64 v] 33)), x.val.cell? ⟨wr.heap.size, 1, none⟩ = some (.int .i64 v) := fun x => x.ex.cell (by simp)
      clear hc hu hv
      go_wp2
      refine wp_region_wo (by kernel_rfl) (by kernel_rfl) ?_
      repeat (go_big_quiet_step ((go_at_call 13; exact says_wo (HVQ.out _))))
      refine wpQuiet_nil ?_
      rintro _ ⟨⟨w7, hw7⟩, rfl⟩
      have hx7 := hxa.trans hw7
      clear q0 q1 hxa
      go_wp2
      go_roundg (l.length - (i + 1))
      case measure => have := hk.out; omega
      case rel => exact ⟨i + 1, by omega, by go_num, Lib.hid rfl, hx7⟩
    · have e : i = l.length := by omega
      subst e
      go_wp2
      go_ret
      exact ⟨rfl, HX6.out.trans hx⟩

theorem pointsSays_walk (p : Int) (a : Option Addr) (len cap : Nat) (l : List (Int × Int)) (x : Int) (w : World) (_ : I64 p) (hz : IsPairs w a len cap l) (_ : I64 x) :
    Calls Try.prog 3 #[.int .i64 p, .slice a len cap, .int .i64 x] w (Says (.bool true) w) := by
  obtain ⟨rfl, hl, hcap, hr, hnil, _⟩ := hz
  by_cases h : ptE p l = 0
  · exact pointsSays_ok p l x a cap w hl hr h
  · exact pointsSays_no p l x a cap w hl (by omega) hr h

end Go.Proofs.Ytfdhhiibhkepaaa
