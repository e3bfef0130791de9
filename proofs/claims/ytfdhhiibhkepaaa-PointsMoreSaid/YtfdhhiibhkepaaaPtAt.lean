/-
  Package points: At; the document's value by LAGRANGE.
-/
import Derived.Test.YtfdhhiibhkepaaaPtThru
import Derived.Test.YtfdhhiibhkepaaaPtErr
import Derived.Test.YtfdhhiibhkepaaaRsPow
import Derived.Test.YtfdhhiibhkepaaaPoVals
namespace Go.Proofs.Ytfdhhiibhkepaaa
open Go.RowKit
open Eu Pr Po Rs

set_option maxRecDepth 100000 in
set_option maxHeartbeats 2000000 in
theorem ptAt_no (p : Int) (l : List (Int × Int)) (x : Int) (a : Option Addr) (cap : Nat) (w : World) (hcap : l.length ≤ cap) (hl : l.length ≤ 140737488355328) (hr : ReadsR w a l) (h : ptE p l ≠ 0) :
    Calls Try.prog 8 #[.int .i64 p, .slice a l.length cap, .int .i64 x] w (Says (.tuple #[.int .i64 0, .int .i64 (ptE p l)]) w) := by
  have HC := Lib.hid (through_no p l a cap w hcap hl hr h)
  obtain ⟨c, hc⟩ : ∃ c, ptE p l = c := ⟨_, rfl⟩
  rw [hc] at HC h ⊢
  have hb : (c != 0) = true := by simpa using h
  clear hl hr h hc
  go_enter Try.func8, Try.ntmps8
  go_wp2_with (go_at_call 7; (with_reducible refine (HC.out).mono ?_); rintro e w2 ⟨rfl, hw2⟩)
  go_ret2
  exact ⟨rfl, hw2⟩

set_option maxRecDepth 100000 in
set_option maxHeartbeats 2000000 in
theorem ptAt_ok (p : Int) (l : List (Int × Int)) (F : List Int) (x : Int) (a : Option Addr) (cap : Nat) (w : World) (hcap : l.length ≤ cap) (hr : ReadsR w a l) (h : ptE p l = 0) (hF : IsTh p l l.length F) :
    Calls Try.prog 8 #[.int .i64 p, .slice a l.length cap, .int .i64 x] w (Says (.tuple #[.int .i64 (ev F x % p), .int .i64 0]) w) := by
  obtain ⟨hp, p9, l12, _⟩ := ptE_zero.mp h
  have HC := Lib.hid (through_ok p l F a cap w hcap hr h hF)
  have HA := Lib.hid fun (w2 : World) (a2 : Option Addr) (c2 : Nat) (hr2 : Reads w2 .i64 a2 F) => pat_ok p F x a2 c2 w2 hr2 (polyE_zero.mpr ⟨hp, p9, by have := hF.2.1; omega, hF.1⟩)
  obtain ⟨N, hN⟩ : ∃ N, F.length = N := ⟨_, rfl⟩
  obtain ⟨y, hy⟩ : ∃ y, ev F x % p = y := ⟨_, rfl⟩
  rw [hN] at HC HA
  rw [hy] at HA ⊢
  clear hr h hF hN hy hp
  go_enter Try.func8, Try.ntmps8
  go_wp2_with (first
    | (go_at_call 7; (with_reducible refine (HC.out).mono ?_); rintro e w2 ⟨a2, c2, rfl, hrow2, hr2, hn2, hw2⟩)
    | (go_at_call 29; (with_reducible refine (HA.out _ _ _ hr2.out).mono ?_); rintro e w3 ⟨rfl, hw3⟩))
  go_ret2
  exact ⟨rfl, hw2.trans hw3⟩

/-- A step of the product. -/
theorem bq_step {p Y X V D y x d : Int} (hy : p ∣ y - Y) (hd : p ∣ d - (x - X)) (hv : V = D) : p ∣ y * d % p * V % p - Y * (x - X) * D := by
  subst hv
  obtain ⟨k, hk⟩ := hy
  obtain ⟨j, hj⟩ := hd
  have h1 := Int.mul_ediv_add_emod (y * d) p
  have h2 := Int.mul_ediv_add_emod (y * d % p * V) p
  generalize y * d / p = q1 at *
  generalize y * d % p * V / p = q2 at *
  generalize y * d % p * V % p = r2 at *
  generalize y * d % p = r1 at *
  have e1 : r1 = y * d - p * q1 := by omega
  have e2 : r2 = r1 * V - p * q2 := by omega
  have e3 : y = Y + p * k := by omega
  have e4 : d = x - X + p * j := by omega
  subst e3
  subst e4
  subst e2
  subst e1
  exact ⟨(Y * j + k * (x - X) + p * k * j - q1) * V - q2, by grind⟩

theorem su_step {p o s y g : Int} (ho : p ∣ o - s) (hy : p ∣ y - g) : p ∣ (o + y) % p - (s + g) := by
  have h1 := Int.mul_ediv_add_emod (o + y) p
  obtain ⟨k, hk⟩ := ho
  obtain ⟨j, hj⟩ := hy
  generalize (o + y) / p = q at *
  generalize (o + y) % p = r at *
  refine ⟨k + j - q, ?_⟩
  rw [Int.mul_sub, Int.mul_add]
  omega

theorem dvd_mod (p a : Int) : p ∣ a % p - a := by
  have h1 := Int.mul_ediv_add_emod a p
  refine ⟨- (a / p), ?_⟩
  rw [Int.mul_neg]
  omega

set_option maxRecDepth 100000 in
set_option maxHeartbeats 4000000 in
theorem atPoint_any (p : Int) (l : List (Int × Int)) (F : List Int) (x : Int) (a : Option Addr) (cap : Nat) (w : World) (hr : ReadsR w a l) (h : ptE p l = 0) (hF : IsTh p l l.length F) :
    Calls Try.prog 12 #[.int .i64 p, .slice a l.length cap, .int .i64 x] w (Says (.int .i64 (ev F x % p)) w) := by
  obtain ⟨hp, p9, l12, hP⟩ := ptE_zero.mp h
  have p2 := hp.1
  have hsum := isTh_sum hp hP hF x
  have HEND : Hid (∀ o, 0 ≤ o → o < p → p ∣ o - su (fun i => bq (px l) (vi p l i) i (py l i) (x % p) l.length) l.length → o = ev F x % p) := Lib.hid fun o o0 o1 ho => by
    have h1 := Int.dvd_sub ho hsum
    rw [show ∀ a b c : Int, a - b - (c - b) = a - c by intros; omega] at h1
    rw [← emod_of_dvd h1, Int.emod_eq_of_lt o0 o1]
  have HR := Lib.hid hr
  have HPT := Lib.hid hP
  have HMX := Lib.hid fun w2 => refmod_any x p w2 (by omega) (by omega)
  have HM := Lib.hid fun (n : Int) w2 => refmod_any n p w2 (by omega) (by omega)
  have HPW := Lib.hid fun (d : Int) => powOf_any d p (by omega) (by omega) (p.toNat - 2) (by omega)
  rw [show ((p.toNat - 2 : Nat) : Int) = p - 2 by omega] at HPW
  have x0 := Int.emod_nonneg x (b := p) (by omega)
  have x1 := Int.emod_lt_of_pos x (b := p) (by omega)
  obtain ⟨V, hV⟩ : ∃ V, ev F x % p = V := ⟨_, rfl⟩
  rw [hV] at HEND ⊢
  obtain ⟨X, hX⟩ : ∃ X, x % p = X := ⟨_, rfl⟩
  rw [hX] at HEND HMX x0 x1
  clear hr h hF hP hsum hV hX hp
  go_enter Try.func12, Try.ntmps12
  go_wp2
  go_loopg [7, 15] l.length (fun k v7 v15 wr => ∃ (i : Nat) (o : Int), i ≤ l.length ∧ 0 ≤ o ∧ o < p ∧ v7 = .int .i64 o ∧ v15 = .int .i64 i ∧ Hid (p ∣ o - su (fun i => bq (px l) (vi p l i) i (py l i) X l.length) i) ∧ Hid (k = l.length - i) ∧ Ex w wr)
  case atStart => exact ⟨0, 0, by omega, by omega, by omega, rfl, rfl, Lib.hid (Int.dvd_zero p), Lib.hid rfl, Ex.refl _⟩
  case round =>
    rename World => wo
    obtain ⟨i, o, hi, o0, o1, rfl, rfl, hO, hk, hx⟩ := hrel
    by_cases hlt : i < l.length
    · rcases HR.out with hn | ⟨b, off, rfl, hc⟩
      · rw [hn] at hlt; exact absurd hlt (Nat.not_lt_zero _)
      have hc0 := hx.cell (hc i hlt).1
      have hc1 := hx.cell (hc i hlt).2
      have HC := Lib.hid hc
      have HI := Lib.hid (HPT.out.1 i hlt)
      have HBQ : Hid (∀ j y d, j ≠ i → p ∣ y - bq (px l) (vi p l i) i (py l i) X j → p ∣ d - (X - px l j) → p ∣ y * d % p * vi p l i j % p - bq (px l) (vi p l i) i (py l i) X (j + 1)) := Lib.hid fun j y d hji hy hd => by
        rw [bq, if_neg hji]
        exact bq_step hy hd rfl
      have HBI : Hid (bq (px l) (vi p l i) i (py l i) X (i + 1) = bq (px l) (vi p l i) i (py l i) X i) := Lib.hid (by rw [bq, if_pos rfl])
      have HSU : Hid (∀ y, p ∣ y - bq (px l) (vi p l i) i (py l i) X l.length → p ∣ (o + y) % p - su (fun i => bq (px l) (vi p l i) i (py l i) X l.length) (i + 1)) := Lib.hid fun y hy => su_step hO.out hy
      have HVI : Hid (∀ j, vi p l i j = Pw ((px l i - px l j) % p) (p.toNat - 2) p) := Lib.hid fun j => rfl
      obtain ⟨B, hB⟩ : ∃ B : Nat → Int, (fun j => bq (px l) (vi p l i) i (py l i) X j) = B := ⟨_, rfl⟩
      have hBj : ∀ j, bq (px l) (vi p l i) i (py l i) X j = B j := fun j => by rw [← hB]
      simp only [hBj] at HBQ HBI HSU
      have HB0 : Hid (B 0 = py l i) := Lib.hid (by rw [← hB]; rfl)
      obtain ⟨u, hu⟩ : ∃ u, px l i = u := ⟨_, rfl⟩
      obtain ⟨v, hv⟩ : ∃ v, py l i = v := ⟨_, rfl⟩
      rw [show (nthR l i).1 = u from hu] at hc0
      rw [show (nthR l i).2 = v from hv] at hc1
      rw [hu] at HI HVI
      rw [hv] at HI HB0
      obtain ⟨⟨u0, u1⟩, v0, v1⟩ := HI.out
      have HXA := Lib.hid (hx.alloc (.cells #[.int .i64 u, .int .i64 v] 33))
      have qa0 : ∀ x : Wo (wo.alloc (.cells #[.int .i64 u, .int .i64 v] 33)), x.val.cell? ⟨wo.heap.size, 0, none⟩ = some (.int .i64 u) := fun x => x.ex.cell (by simp)
      have QA := Lib.hid qa0
      clear hc hu hv hB hBj qa0
      go_wp2
      go_loopg [10, 24] l.length (fun k v10 v24 wr => ∃ (j : Nat) (y : Int), j ≤ l.length ∧ 0 ≤ y ∧ y < p ∧ v10 = .int .i64 y ∧ v24 = .int .i64 j ∧ Hid (p ∣ y - B j) ∧ Hid (k = l.length - j) ∧ Ex (wo.alloc (.cells #[.int .i64 u, .int .i64 v] 33)) wr)
      case atStart => exact ⟨0, v, by omega, v0, v1, rfl, rfl, Lib.hid (by rw [HB0.out, Int.sub_self]; exact Int.dvd_zero p), Lib.hid rfl, Ex.refl _⟩
      case round =>
        obtain ⟨j, y, hj, y0, y1, rfl, rfl, hY, hk2, hx2⟩ := hrel
        by_cases hjl : j < l.length
        · have hx3 := HXA.out.trans hx2
          have hd0 := hx3.cell (HC.out j hjl).1
          have hd1 := hx3.cell (HC.out j hjl).2
          have HJ := Lib.hid (HPT.out.1 j hjl)
          have HV := Lib.hid (HVI.out j)
          have HQ := Lib.hid fun d hji => HBQ.out j y d hji hY.out
          obtain ⟨s, hs⟩ : ∃ s, px l j = s := ⟨_, rfl⟩
          obtain ⟨t, ht⟩ : ∃ t, py l j = t := ⟨_, rfl⟩
          rw [show (nthR l j).1 = s from hs] at hd0
          rw [show (nthR l j).2 = t from ht] at hd1
          rw [hs] at HJ HV HQ
          rw [ht] at HJ
          clear hs ht
          obtain ⟨⟨s0, s1⟩, t0, t1⟩ := HJ.out
          by_cases hji : j = i
          · subst hji
            have HYN : Hid (p ∣ y - B (j + 1)) := Lib.hid (by rw [HBI.out]; exact hY.out)
            go_wp2
            go_roundg (l.length - (j + 1))
            case measure => have := hk2.out; omega
            case rel => exact ⟨j + 1, y, by omega, y0, y1, rfl, by go_num, HYN, Lib.hid rfl, hx2.alloc _⟩
          · have hne : ((i : Int) != (j : Int)) = true := by simp; omega
            have D1a := Int.emod_nonneg (X - s) (b := p) (by omega)
            have D1b := Int.emod_lt_of_pos (X - s) (b := p) (by omega)
            have D2a := Int.emod_nonneg (u - s) (b := p) (by omega)
            have D2b := Int.emod_lt_of_pos (u - s) (b := p) (by omega)
            have V0 := Pw_nonneg ((u - s) % p) (p.toNat - 2) (m := p) (by omega)
            have V1 := Pw_lt ((u - s) % p) (p.toNat - 2) (m := p) (by omega)
            have HYN := Lib.hid (HQ.out ((X - s) % p) hji (dvd_mod p _))
            rw [HV.out] at HYN
            have HM1 := Lib.hid fun w2 => HM.out (X - s) w2
            have HM2 := Lib.hid fun w2 => HM.out (u - s) w2
            have HPV := Lib.hid fun w2 => HPW.out ((u - s) % p) w2
            obtain ⟨D1, hD1⟩ : ∃ D1, (X - s) % p = D1 := ⟨_, rfl⟩
            obtain ⟨D2, hD2⟩ : ∃ D2, (u - s) % p = D2 := ⟨_, rfl⟩
            rw [hD1] at D1a D1b HYN HM1
            rw [hD2] at D2a D2b V0 V1 HYN HM2 HPV
            obtain ⟨Vv, hVv⟩ : ∃ Vv, Pw D2 (p.toNat - 2) p = Vv := ⟨_, rfl⟩
            rw [hVv] at V0 V1 HYN HPV
            obtain ⟨z0, z1⟩ := Eu.mul_le (a := y) (b := D1) (A := 997) (B := 997) (by omega) (by omega) (by omega) (by omega)
            have e0 := Int.emod_nonneg (y * D1) (b := p) (by omega)
            have e1 := Int.emod_lt_of_pos (y * D1) (b := p) (by omega)
            obtain ⟨z2, z3⟩ := Eu.mul_le (a := y * D1 % p) (b := Vv) (A := 997) (B := 997) (by omega) (by omega) (by omega) (by omega)
            have e2 := Int.emod_nonneg (y * D1 % p * Vv) (b := p) (by omega)
            have e3 := Int.emod_lt_of_pos (y * D1 % p * Vv) (b := p) (by omega)
            have hxi := hx2.alloc (.cells #[.int .i64 s, .int .i64 t] 33)
            have qa : ∀ x : Wo (wr.alloc (.cells #[.int .i64 s, .int .i64 t] 33)), x.val.cell? ⟨wo.heap.size, 0, none⟩ = some (.int .i64 u) := fun x => QA.out ⟨_, hxi.trans x.ex⟩
            have qb : ∀ x : Wo (wr.alloc (.cells #[.int .i64 s, .int .i64 t] 33)), x.val.cell? ⟨wr.heap.size, 0, none⟩ = some (.int .i64 s) := fun x => x.ex.cell (by simp)
            clear hD1 hD2 hVv hji
            go_wp2
            refine wp_region_wo (by kernel_rfl) (by kernel_rfl) ?_
            repeat (go_big_quiet_step (first | (go_at_call 36; exact says_wo (says_same (HMX.out _))) | (go_at_call 36; exact says_wo (says_same (HM1.out _))) | (go_at_call 36; exact says_wo (says_same (HM2.out _))) | (go_at_call 37; exact says_wo (HPV.out _))))
            refine wpQuiet_nil ?_
            rintro _ ⟨⟨w4, hw4⟩, rfl⟩
            have hx4 := hxi.trans hw4
            clear qa qb hxi
            go_wp2
            go_roundg (l.length - (j + 1))
            case measure => have := hk2.out; omega
            case rel => exact ⟨j + 1, _, by omega, e2, e3, rfl, by go_num, HYN, Lib.hid rfl, hx4⟩
        · have e : j = l.length := by omega
          subst e
          have HSN := Lib.hid (HSU.out y hY.out)
          have e0 := Int.emod_nonneg (o + y) (b := p) (by omega)
          have e1 := Int.emod_lt_of_pos (o + y) (b := p) (by omega)
          go_wp2
          go_roundg (l.length - (i + 1))
          case measure => have := hk.out; omega
          case rel => exact ⟨i + 1, _, by omega, e0, e1, rfl, by go_num, HSN, Lib.hid rfl, HXA.out.trans hx2⟩
    · have e : i = l.length := by omega
      subst e
      have HE := Lib.hid (HEND.out o o0 o1 hO.out)
      go_wp2
      go_ret
      exact ⟨by rw [← HE.out]; rfl, hx⟩

end Go.Proofs.Ytfdhhiibhkepaaa
