/-
  SquareSays, walked.
-/
import Derived.Test.YtcbaknnaacnaiaaDoorSqRefS
import Derived.Test.YtcbaknnaacnaiaaDoorSqTwoW
import Derived.Deep.CutRange
import Derived.Deep.DeepCutAuto
namespace Go.Proofs.YtcbaknnaacnaiaaDoor
open Go.RowKit
open Eu Pr Rs Sq

/-- n is no number for Symbol; p no prime for Root. -/
def BadN (n : Int) : Prop := n < 1 ∨ 1000000 < n ∨ n % 2 = 0
instance (n : Int) : Decidable (BadN n) := by unfold BadN; infer_instance
def badP (p : Int) : Bool := decide (p < 2) || (decide (1000000 < p) || !pb p)

/-- What Symbol answers; what Root answers; what Two answers. -/
def SymSays (a n s e : Int) : Prop := (BadN n ∧ s = 0 ∧ e = 1) ∨ (¬ BadN n ∧ s = jac a n.toNat ∧ e = 0)
def RootSays (a p r f : Int) (b : Bool) : Prop := (b = true ∧ r = 0 ∧ f = 1) ∨ (b = false ∧ ((¬ IsSq a p.toNat ∧ r = 0 ∧ f = 4) ∨ (IsRoot a p r ∧ f = 0)))
def TwoAll (n x y g : Int) : Prop := ((n < 0 ∨ 1000000 < n) ∧ x = 0 ∧ y = 0 ∧ g = 1) ∨ (0 ≤ n ∧ n ≤ 1000000 ∧ TwoSays n x y g)

theorem symbol_gen (a n : Int) : ∃ s e, SymSays a n s e ∧ ∀ w, Calls Tryd.prog 9 #[.int .i64 a, .int .i64 n] w (Says (.tuple #[.int .i64 s, .int .i64 e]) w) := by
  by_cases h : BadN n
  · exact ⟨0, 1, .inl ⟨h, rfl, rfl⟩, fun w => symbol_no a n w h⟩
  · have h2 := h
    unfold BadN at h2
    exact ⟨_, 0, .inr ⟨h, rfl, rfl⟩, fun w => symbol_ok a n w (by omega) (by omega) (by omega)⟩

theorem badP_no {p : Int} (h : badP p = false) : Prm p ∧ 2 ≤ p ∧ p ≤ 1000000 := by
  unfold badP at h
  simp at h
  exact ⟨(pb_iff p).mp h.2.2, h.1, h.2.1⟩

theorem root_gen (a p : Int) (w : World) (hT : Tab w) : ∃ r f, RootSays a p r f (badP p) ∧ ∀ w2, Ex w w2 → Calls Tryd.prog 10 #[.int .i64 a, .int .i64 p] w2 (Says (.tuple #[.int .i64 r, .int .i64 f]) w2) := by
  cases hb : badP p
  · obtain ⟨hp, p2, p3⟩ := badP_no hb
    obtain ⟨P, rfl⟩ : ∃ P : Nat, p = P := ⟨p.toNat, by omega⟩
    by_cases hs : IsSq a P
    · obtain ⟨r, hr⟩ := root_of (by omega) hs
      exact ⟨r, 0, .inr ⟨rfl, .inr ⟨hr, rfl⟩⟩, fun w2 hx => root_ok a P r w2 hp (by omega) hr (hT.ex hx)⟩
    · exact ⟨0, 4, .inr ⟨rfl, .inl ⟨hs, rfl, rfl⟩⟩, fun w2 _ => root_none a P w2 hp (by omega) hs⟩
  · refine ⟨0, 1, .inl ⟨rfl, rfl, rfl⟩, fun w2 _ => ?_⟩
    by_cases h1 : p < 0 ∨ 1000000 < p
    · exact root_no a p w2 (by omega)
    · refine root_no a p w2 (.inr (.inr fun hp => ?_))
      have := hp.1
      have h3 := (pb_iff p).mpr hp
      unfold badP at hb
      simp [h3] at hb
      omega

theorem two_gen (n : Int) : ∃ x y g, TwoAll n x y g ∧ ∀ w, Calls Tryd.prog 11 #[.int .i64 n] w (Says (.tuple #[.int .i64 x, .int .i64 y, .int .i64 g]) w) := by
  by_cases h : n < 0 ∨ 1000000 < n
  · exact ⟨0, 0, 1, .inl ⟨h, rfl, rfl, rfl⟩, fun w => two_out n w h⟩
  · obtain ⟨x, y, e, hs⟩ := twoSays_some n
    exact ⟨x, y, e, .inr ⟨by omega, by omega, hs⟩, fun w => two_any n x y e w (by omega) (by omega) hs⟩

theorem two_hit2 {n l h x y e : Int} (hs : TwoSays n x y e) (l0 : 0 ≤ l) (lh : l ≤ h) (he : l * l + h * h = n) (hin : ∀ i k : Int, 0 ≤ i → i ≤ k → i * i + k * k = n → l ≤ i) : x = l ∧ y = h ∧ e = 0 := by
  rcases hs with ⟨ht, e0⟩ | ⟨hn, _⟩
  · obtain ⟨x0, xy, hsum, hmin⟩ := id ht
    have h1 := hin x y x0 xy hsum
    have h2 := hmin l h l0 lh he
    obtain rfl : x = l := by omega
    exact ⟨rfl, (ht.second lh he).symm, e0⟩
  · exact absurd he (hn l h l0 lh)

theorem two_miss2 {n l x y e : Int} (hs : TwoSays n x y e) (l0 : 0 ≤ l) (hl : n < 2 * l * l) (hin : ∀ i k : Int, 0 ≤ i → i ≤ k → i * i + k * k = n → l ≤ i) : x = 0 ∧ y = 0 ∧ e = 4 := by
  rcases hs with ⟨ht, e0⟩ | ⟨hn, h2⟩
  · obtain ⟨x0, xy, hsum, hmin⟩ := ht
    have h1 := hin x y x0 xy hsum
    have h2 := sq_mono l0 h1
    have h3 := sq_mono x0 xy
    rw [Int.mul_assoc] at hl
    omega
  · exact h2

set_option maxRecDepth 100000 in
set_option maxHeartbeats 4000000 in
theorem squareSays_walk (a n p : Int) (w : World) (_ : I64 a) (_ : I64 n) (_ : I64 p) (hT : Tab w) : Calls Tryd.prog 3 #[.int .i64 a, .int .i64 n, .int .i64 p] w (Says (.bool true) w) := by
  obtain ⟨s, e, hsy, hS⟩ := symbol_gen a n
  obtain ⟨r, f, hro, hR⟩ := root_gen a p w hT
  obtain ⟨x, y, g, htw, hTw⟩ := two_gen n
  have HSY := Lib.hid hsy
  obtain ⟨b, hbp⟩ : ∃ b, badP p = b := ⟨_, rfl⟩
  rw [hbp] at hro
  have HBP := Lib.hid hbp
  have HRO := Lib.hid hro
  have HTW := Lib.hid htw
  have HS := Lib.hid hS
  have HR := Lib.hid hR
  have HT := Lib.hid hTw
  clear hsy hS hro hR htw hTw hT hbp
  go_enter Tryd.func3, Tryd.ntmps3
  go_upto_region 4 with (first
    | (go_at_call 9; (with_reducible refine (HS.out _).mono ?_); rintro e w1 ⟨rfl, hw1⟩)
    | (go_at_call 10; (with_reducible refine (HR.out _ hw1).mono ?_); rintro e w2 ⟨rfl, hw2⟩)
    | (go_at_call 11; (with_reducible refine (HT.out _).mono ?_); rintro e w3 ⟨rfl, hw3⟩))
  have HX3 : Hid (Ex w w3) := Lib.hid (by repeat (first | assumption | exact Ex.refl _ | refine Ex.trans ?_ (by assumption)))
  clear hw1 hw2 hw3 HS HR HT
  go_cut [45] (fun c wx => c = .bool (decide (BadN n)) ∧ w3 = wx)
  case first =>
    by_cases h1 : n < 1
    · have hb : BadN n := .inl h1
      go_wp2
      go_meet
      exact ⟨by rw [decide_eq_true hb], rfl⟩
    · by_cases h2 : 1000000 < n
      · have hb : BadN n := .inr (.inl h2)
        go_wp2
        go_meet
        exact ⟨by rw [decide_eq_true hb], rfl⟩
      · by_cases h3 : n % 2 = 0
        · have hb : BadN n := .inr (.inr h3)
          have g3 : (n % 2 == 0) = true := by simp [h3]
          clear h3
          go_wp2
          go_meet
          exact ⟨by rw [decide_eq_true hb], rfl⟩
        · have hb : ¬ BadN n := by unfold BadN; omega
          have g3 : (n % 2 == 0) = false := by simp [h3]
          clear h3
          go_wp2
          go_meet
          exact ⟨by rw [decide_eq_false hb], rfl⟩
  case rest =>
    obtain ⟨rfl, rfl⟩ := hcut
    go_upto_if 45 with fail
    go_cut [7] (fun c wx => c = .int .i64 s ∧ Ex w3 wx)
    case first =>
      rcases HSY.out with ⟨hb, rfl, rfl⟩ | ⟨hb, rfl, rfl⟩
      · have gb := decide_eq_true hb
        go_wp2
        go_meet
        exact ⟨rfl, Ex.refl _⟩
      · have gb := decide_eq_false hb
        have HO : Hid (∀ w, Calls Tryd.prog 12 #[.int .i64 a, .int .i64 n] w (Says (.int .i64 (jac a n.toNat)) w)) := Lib.hid fun w => by
          unfold BadN at hb
          exact symbolOf_any a n w (by omega) (by omega) (by omega)
        have gj : (jac a n.toNat != jac a n.toNat) = false := by simp
        go_wp2_with (go_at_call 12; (with_reducible refine (HO.out _).mono ?_); rintro e w4 ⟨rfl, hw4⟩)
        go_meet
        exact ⟨rfl, hw4⟩
    case rest =>
      obtain ⟨rfl, hx4⟩ := hcut
      have HX4 : Hid (Ex w wc) := Lib.hid (HX3.out.trans hx4)
      clear hx4
      rename World => w4
      go_upto_region 9 with fail
      go_cut [71] (fun c wx => c = .bool b ∧ Ex w4 wx)
      case first =>
        by_cases h1 : p < 2
        · have hb : b = true := by rw [← HBP.out]; unfold badP; simp [h1]
          go_wp2
          go_meet
          exact ⟨by rw [hb], Ex.refl _⟩
        · by_cases h2 : 1000000 < p
          · have hb : b = true := by rw [← HBP.out]; unfold badP; simp [h2]
            go_wp2
            go_meet
            exact ⟨by rw [hb], Ex.refl _⟩
          · have HB : Hid (b = !pb p) := Lib.hid (by rw [← HBP.out]; unfold badP; simp [h1, h2])
            have HP := Lib.hid fun w => refPrime_ok p w (by omega)
            cases hpb : pb p
            all_goals
              rw [hpb] at HP HB
              clear hpb
              go_wp2_with (go_at_call 13; (with_reducible refine (HP.out _).mono ?_); rintro e w5 ⟨rfl, hw5⟩)
              go_meet
              exact ⟨by rw [HB.out]; rfl, hw5⟩
      case rest =>
        obtain ⟨rfl, hx5⟩ := hcut
        have HX5 : Hid (Ex w wc) := Lib.hid (HX4.out.trans hx5)
        clear hx5
        rename World => w5
        go_upto_if 71 with fail
        go_cut [7] (fun c wx => c = .int .i64 s ∧ Ex w5 wx)
        case first =>
          rcases HRO.out with ⟨rfl, rfl, rfl⟩ | ⟨rfl, ⟨hn, rfl, rfl⟩ | ⟨hr, rfl⟩⟩
          · go_wp2
            go_meet
            exact ⟨rfl, Ex.refl _⟩
          · obtain ⟨hp, p2, p3⟩ := badP_no HBP.out
            have HO : Hid (∀ w, Calls Tryd.prog 14 #[.int .i64 a, .int .i64 p] w (Says (.int .i64 (-1)) w)) := Lib.hid fun w => by
              have := rootOf_any a p.toNat (-1) w (by omega) (by omega) (.inl ⟨rfl, hn⟩)
              rwa [Int.toNat_of_nonneg (by omega)] at this
            clear hp hn
            go_wp2_with (go_at_call 14; (with_reducible refine (HO.out _).mono ?_); rintro e w6 ⟨rfl, hw6⟩)
            go_meet
            exact ⟨rfl, hw6⟩
          · obtain ⟨hp, p2, p3⟩ := badP_no HBP.out
            have HO : Hid (∀ w, Calls Tryd.prog 14 #[.int .i64 a, .int .i64 p] w (Says (.int .i64 r) w)) := Lib.hid fun w => by
              have := rootOf_any a p.toNat r w (by omega) (by omega) (.inr (by rwa [Int.toNat_of_nonneg (by omega)]))
              rwa [Int.toNat_of_nonneg (by omega)] at this
            have r0 := hr.1
            have gr : (r != r) = false := by simp
            clear hp hr
            go_wp2_with (go_at_call 14; (with_reducible refine (HO.out _).mono ?_); rintro e w6 ⟨rfl, hw6⟩)
            go_meet
            exact ⟨rfl, hw6⟩
        case rest =>
          obtain ⟨rfl, hx6⟩ := hcut
          have HX6 : Hid (Ex w wc) := Lib.hid (HX5.out.trans hx6)
          clear hx6 HX3 HX4 HX5
          rename World => w6
          rcases HTW.out with ⟨hn, rfl, rfl, rfl⟩ | ⟨n0, n1, hs⟩
          · rcases hn with hn | hn
            all_goals
              go_wp2
              go_ret
              exact ⟨rfl, HX6.out⟩
          · have HTS := Lib.hid hs
            clear hs
            go_wp2
            go_loopg [15] 1001 (fun m v15 wr => ∃ i : Int, 0 ≤ i ∧ i ≤ 708 ∧ v15 = .int .i64 i ∧ Hid (∀ i' k' : Int, 0 ≤ i' → i' ≤ k' → i' * i' + k' * k' = n → i ≤ i') ∧ Hid (m = (1001 - i).toNat) ∧ Ex w wr)
            case atStart => exact ⟨0, by omega, by omega, rfl, Lib.hid (fun i' k' h _ _ => h), Lib.hid (by omega), HX6.out⟩
            case round =>
              rename World => wo
              obtain ⟨i, i0, i1, rfl, hin, hm, hx⟩ := hrel
              have mm := Eu.mul_le (a := i) (b := i) (A := 708) (B := 708) (by omega) (by omega) (by omega) (by omega)
              obtain ⟨mm0, mm1⟩ := mm
              have e2 : 2 * i * i = 2 * (i * i) := Int.mul_assoc 2 i i
              have e20 : 0 ≤ 2 * i * i := by omega
              have e21 : 2 * i * i ≤ 2000000 := by omega
              have E2 := Lib.hid e2
              clear e2
              have HXO := Lib.hid hx
              clear hx
              by_cases hle : 2 * i * i ≤ n
              · have i2 : i ≤ 707 := by
                  have := sq_small (k := i) (B := 708) i0 (by omega) (by have := E2.out; omega)
                  omega
                go_wp2
                go_loopg [16] (1002 - i).toNat (fun m v16 wr => ∃ k : Int, i ≤ k ∧ k ≤ 1001 ∧ v16 = .int .i64 k ∧ Hid (∀ k' : Int, i ≤ k' → k' < k → i * i + k' * k' ≠ n) ∧ Hid (m = (1002 - k).toNat) ∧ Ex w wr)
                case atStart => exact ⟨i, by omega, by omega, rfl, Lib.hid (fun k' h1 h2 => by omega), Lib.hid rfl, HXO.out⟩
                case round =>
                  obtain ⟨k, k0, k1, rfl, hkn, hmk, hy⟩ := hrel
                  have HY := Lib.hid hy
                  clear hy
                  have kk := Eu.mul_le (a := k) (b := k) (A := 1001) (B := 1001) (by omega) (by omega) (by omega) (by omega)
                  obtain ⟨kk0, kk1⟩ := kk
                  by_cases hl2 : i * i + k * k ≤ n
                  · have k2 : k ≤ 1000 := by
                      have := sq_small (k := k) (B := 1001) (by omega) (by omega) (by omega)
                      omega
                    by_cases heq : i * i + k * k = n
                    · obtain ⟨rfl, rfl, rfl⟩ := two_hit2 HTS.out i0 k0 heq hin.out
                      have ge : (x * x + y * y == n) = true := by simp [heq]
                      have g1 : (x == x) = true := by simp
                      have g2 : (y == y) = true := by simp
                      clear heq
                      go_wp2
                      go_ret
                      exact ⟨rfl, HY.out⟩
                    · have ge : (i * i + k * k == n) = false := by simpa using heq
                      have HN : Hid (∀ k' : Int, i ≤ k' → k' < k + 1 → i * i + k' * k' ≠ n) := Lib.hid fun k' h1 h2 => by
                        by_cases h3 : k' < k
                        · exact hkn.out k' h1 h3
                        · obtain rfl : k' = k := by omega
                          exact heq
                      clear heq
                      go_wp2
                      go_roundg (1002 - (k + 1)).toNat
                      case measure => have := hmk.out; omega
                      case rel => exact ⟨k + 1, by omega, by omega, rfl, HN, Lib.hid rfl, HY.out⟩
                  · have HN : Hid (∀ i' k' : Int, 0 ≤ i' → i' ≤ k' → i' * i' + k' * k' = n → i + 1 ≤ i') := Lib.hid fun i' k' h1 h2 h3 => by
                      have h4 := hin.out i' k' h1 h2 h3
                      refine Decidable.byContradiction fun hc => ?_
                      obtain rfl : i' = i := by omega
                      by_cases h5 : k' < k
                      · exact hkn.out k' h2 h5 h3
                      · have := sq_mono (show (0 : Int) ≤ k by omega) (show k ≤ k' by omega)
                        omega
                    go_wp2
                    go_roundg (1001 - (i + 1)).toNat
                    case measure => have := hm.out; omega
                    case rel => exact ⟨i + 1, by omega, by omega, rfl, HN, Lib.hid rfl, HY.out⟩
              · obtain ⟨rfl, rfl, rfl⟩ := two_miss2 HTS.out i0 (by omega) hin.out
                go_wp2
                go_ret
                exact ⟨rfl, HXO.out⟩

end Go.Proofs.YtcbaknnaacnaiaaDoor
