/-
  GridVander, walked.
-/
import Derived.Test.YteaehaebhpcfeaaGdD
import Derived.Test.YteaehaebhpcfeaaMxTri
import Derived.Test.YteaehaebhpcfeaaGfw
namespace Go.Proofs.Yteaehaebhpcfeaa
open Go.RowKit
open Gf

/-- VANDERMONDE's product, row by row. -/
def vdm (x : Nat → E) : Nat → E
  | 0 => 1
  | n + 1 => vdm x n * pd (fun k => x n + x k) n
theorem vdm_pds (x : Nat → E) : ∀ n, vdm x n = pds (fun i j => pd (fun k => x i + x k) j) ((List.range n).map fun i => (i, i)) := fun n => by
  induction n with
  | zero => rfl
  | succ n ih =>
    rw [List.range_succ, List.map_append, pds_append, ← ih]
    show vdm x n * _ = vdm x n * (pd (fun k => x n + x k) n * 1)
    rw [E.mul_one]
theorem vdm_det (x : Nat → E) (n : Nat) : det (fun r k => ep (x r) k) n = vdm x n := by
  rw [vdm_pds]
  exact vander x n
theorem vdm_not {x : Nat → E} {n : Nat} (hx : ∀ i k, k < i → i < n → x i ≠ x k) : vdm x n ≠ 0 := by
  rw [← vdm_det]
  exact vander_not hx

/-- {2, 3} and 2. -/
theorem powers_lit23 (HP : PowersC) (w : World) (T : TypeId) :
    Calls Try.prog 7 #[.slice (some ⟨w.heap.size, 0, none⟩) 2 2, .int .i64 2] (w.alloc (.cells #[.int .u8 2, .int .u8 3] T)) (Tab2 2 2 (litM [[1, 2], [1, 3]]) w) := by
  refine (HP.ok (F := litM [[2, 3]] 0) (L := 2) (n := 2) (by omega) (by omega) (by omega) (by omega) (by omega) (by omega) (fun i k h1 h2 => ?_) (two_cells w 2 3 T _ rfl rfl)).mono fun e w2 ⟨a2, c2, h1, h2, h3, h4⟩ => ⟨a2, c2, h1, h2, Lib.hid (h3.out.congr fun r hr k hk => ?_), ((Ex.refl w).alloc _).trans h4⟩
  · obtain rfl : i = 1 := by omega
    obtain rfl : k = 0 := by omega
    exact fun e => by have := congrArg E.v e; revert this; decide
  · have hr : r = 0 ∨ r = 1 := by omega
    have hk : k = 0 ∨ k = 1 := by omega
    rcases hr with rfl | rfl <;> rcases hk with rfl | rfl <;> exact E.ext (by decide)

set_option maxRecDepth 100000 in
set_option maxHeartbeats 2000000 in
theorem gridVander_of (HP : PowersC) (HD : DetC) (HR : RankC) (a : Option Addr) (la ca : Nat) (z : List Int) (w : World) (ha : IsInts .u8 1 w a la ca z) :
    Calls Try.prog 4 #[.slice a la ca] w (Says (.bool true) w) := by
  have HL := Lib.hid fun w => powers_lit23 HP w 5
  have HT := Lib.hid (tables_yes HD HR)
  have HS1 : Hid (∀ w a1 c1, ReadsT w a1 2 2 (litM [[1, 2], [1, 3]]) → Calls Try.prog 16 #[.slice a1 2 c1, .slice (some ⟨w.heap.size + 2, 0, none⟩) 2 2] (((w.alloc (.cells #[.int .u8 1, .int .u8 2] 5)).alloc (.cells #[.int .u8 1, .int .u8 3] 5)).alloc (.cells #[.slice (some ⟨w.heap.size, 0, none⟩) 2 2, .slice (some ⟨w.heap.size + 1, 0, none⟩) 2 2] 22))
      (Says (.bool true) w)) := Lib.hid fun w a1 c1 h => by
    have hx := (((Ex.refl w).alloc (.cells #[.int .u8 1, .int .u8 2] 5)).alloc (.cells #[.int .u8 1, .int .u8 3] 5)).alloc (.cells #[.slice (some ⟨w.heap.size, 0, none⟩) 2 2, .slice (some ⟨w.heap.size + 1, 0, none⟩) 2 2] 22)
    exact (keepSame_any 2 2 _ (by omega) (by omega) (by omega) a1 _ c1 2 _ (h.ex hx) (lit22 w 1 2 1 3 5 22 (by decide) (by decide) (by decide) (by decide))).mono fun e w2 ⟨h1, h2⟩ => ⟨h1, hx.trans h2⟩
  have T0 := Lib.hid True.intro
  have hlen := ha.1
  have hcap := ha.2.1
  have hcap2 := ha.2.2.1
  by_cases h1 : powE z la = 0
  · obtain ⟨d1, _, _⟩ := powE_zero.mp h1
    obtain ⟨d2, d3, d4⟩ := unE_zero.mp d1
    rw [hlen] at d2 d3
    have hv := ha.vec d2
    have hu := ha.unlike d4
    obtain ⟨x, hx⟩ : ∃ x, rwb z = x := ⟨_, rfl⟩
    rw [hx] at hv hu
    have HPA := Lib.hid fun w2 (k : Ex w w2) => HP.ok (ca := ca) d2 d3 ha.2.1 (by have := ha.2.2.1; omega) d2 d3 hu (hv.ex k)
    obtain ⟨D, hD⟩ : ∃ D, vdm x la = D := ⟨_, rfl⟩
    have HDA := Lib.hid fun w2 a2 c2 (h : ReadsT w2 a2 la la (fun r k => ep (x r) k)) => HD.ok (ca := c2) d2 d3 h
    rw [vdm_det, hD] at HDA
    have hD0 : D ≠ 0 := by rw [← hD]; exact vdm_not hu
    have hdz : (((D.v : Nat) : Int) != 0) = true := by
      have : D.v ≠ 0 := fun e => hD0 (E.ext e)
      simp; omega
    have HDD := Lib.hid hD
    obtain ⟨bA, oA, rfl, hA⟩ := hv
    have HA := Lib.hid hA
    clear h1 d1 d4 hu hx ha hA hD hD0
    go_enter Try.func4, Try.ntmps4
    go_wp2_with (first
      | (go_at_call 7; clear T0; (with_reducible refine (HL.out _).mono ?_); rintro e w1 ⟨a1, c1, rfl, hc1, hr1, hw1⟩)
      | (go_at_call 16; (with_reducible refine (HS1.out _ _ _ hr1.out).mono ?_); rintro e w2 ⟨rfl, hw2⟩)
      | (go_at_call 17; (with_reducible refine (HT.out _).mono ?_); rintro e w3 ⟨rfl, hw3⟩)
      | (go_at_call 7; (with_reducible refine (HPA.out _ (by repeat (first | assumption | exact Ex.refl _ | refine Ex.trans ?_ (by assumption)))).mono ?_); rintro e w4 ⟨a4, c4, rfl, hc4, hr4, hw4⟩)
      | (go_at_call 18; (with_reducible refine (HDA.out _ _ _ hr4.out).mono ?_); rintro e w5 ⟨rfl, hw5⟩))
    have HX5 : Hid (Ex w w5) := Lib.hid (by repeat (first | assumption | exact Ex.refl _ | refine Ex.trans ?_ (by assumption)))
    clear hw1 hw2 hw3 hw4 hw5 hr1 hr4 HL HT HS1 HPA HDA
    go_loopg [9, 52] la (fun k v9 v52 wr => ∃ (i : Nat) (V : E), i ≤ la ∧ v9 = .int .u8 ((V.v : Nat) : Int) ∧ v52 = .int .i64 (i : Int) ∧ Hid (V = vdm x i) ∧ Hid (k = la - i) ∧ Ex w wr)
    case atStart => exact ⟨0, 1, by omega, rfl, rfl, Lib.hid rfl, Lib.hid rfl, HX5.out⟩
    case round =>
      obtain ⟨i, V, hi, rfl, rfl, hV, hk, hx⟩ := hrel
      by_cases hlt : i < la
      · have q1 := hx.cell (HA.out i hlt)
        obtain ⟨X, hX⟩ : ∃ X, x i = X := ⟨_, rfl⟩
        rw [hX] at q1
        have HXI := Lib.hid hX
        clear hX
        have Vl := V.lt
        go_wp2
        go_loopg [9, 61] i (fun k v9 v61 wr => ∃ (j : Nat) (U : E), j ≤ i ∧ v9 = .int .u8 ((U.v : Nat) : Int) ∧ v61 = .int .i64 (j : Int) ∧ Hid (U = vdm x i * pd (fun k => x i + x k) j) ∧ Hid (k = i - j) ∧ Ex w wr)
        case atStart => exact ⟨0, V, by omega, rfl, rfl, Lib.hid (by rw [hV.out]; exact (E.mul_one _).symm), Lib.hid rfl, hx⟩
        case round =>
          obtain ⟨j, U, hj, rfl, rfl, hU, hkj, hxj⟩ := hrel
          by_cases hjt : j < i
          · have q2 := hxj.cell (HA.out j (by omega))
            obtain ⟨Y, hY⟩ : ∃ Y, x j = Y := ⟨_, rfl⟩
            rw [hY] at q2
            have HYI := Lib.hid hY
            clear hY
            have Xl := X.lt
            have Yl := Y.lt
            have XX := xor_u8_nat X.v Y.v X.lt Y.lt
            have HM := Lib.hid fun w => fmul_any U.v (X.v ^^^ Y.v) w U.lt (Nat.xor_lt_two_pow (n := 8) X.lt Y.lt)
            go_wp2_with (go_at_call 19; (with_reducible refine (HM.out _).mono ?_); rintro e w6 ⟨rfl, hw6⟩)
            go_roundg (i - (j + 1))
            case measure => have := hkj.out; omega
            case rel => exact ⟨j + 1, U * (X + Y), by omega, rfl, by go_num, Lib.hid (by
              rw [hU.out]
              show _ = vdm x i * ((x i + x j) * pd (fun k => x i + x k) j)
              rw [HXI.out, HYI.out, E.mul_comm (X + Y), E.mul_assoc]), Lib.hid rfl, hxj.trans hw6⟩
          · have e : j = i := by omega
            subst e
            go_wp2
            go_roundg (la - (j + 1))
            case measure => have := hk.out; omega
            case rel => exact ⟨j + 1, U, by omega, rfl, by go_num, Lib.hid (by rw [hU.out]; rfl), Lib.hid rfl, hxj⟩
      · have e : i = la := by omega
        subst e
        have HE := Lib.hid (hV.out.trans HDD.out)
        obtain rfl := HE.out
        clear HDD hV HE
        go_wp2
        go_ret
        exact ⟨rfl, hx⟩
  · have HPA := Lib.hid fun w2 (k : Ex w w2) => HP.no (n := (la : Int)) (ha.ex k) (len_wf (by omega)) h1
    have hz : (powE z la != 0) = true := by simpa using h1
    clear h1 ha
    go_enter Try.func4, Try.ntmps4
    go_wp2_with (first
      | (go_at_call 7; clear T0; (with_reducible refine (HL.out _).mono ?_); rintro e w1 ⟨a1, c1, rfl, hc1, hr1, hw1⟩)
      | (go_at_call 16; (with_reducible refine (HS1.out _ _ _ hr1.out).mono ?_); rintro e w2 ⟨rfl, hw2⟩)
      | (go_at_call 17; (with_reducible refine (HT.out _).mono ?_); rintro e w3 ⟨rfl, hw3⟩)
      | (go_at_call 7; (with_reducible refine (HPA.out _ (by repeat (first | assumption | exact Ex.refl _ | refine Ex.trans ?_ (by assumption)))).mono ?_); rintro e w4 ⟨a4, c4, rfl, hw4⟩))
    go_ret
    exact ⟨rfl, (by repeat (first | assumption | exact Ex.refl _ | refine Ex.trans ?_ (by assumption)))⟩

end Go.Proofs.Yteaehaebhpcfeaa
