/-
  PrimeSays, walked.
-/
import Derived.Test.YtcgcjecmlnohbaaPrOneW
namespace Go.Proofs.Ytcgcjecmlnohbaa
open Go.RowKit
open Pr

set_option maxHeartbeats 400000 in
theorem factor_no (n : Int) (w : World) (h : n < 1 ∨ 1000000 < n) :
    Calls Try.prog 10 #[.int .i64 n] w (Says (.tuple #[.slice none 0 0, .int .i64 1]) w) := by
  rcases h with h | h
  all_goals
    go_enter Try.func10, Try.ntmps10
    go_wp2
    go_ret2
    exact ⟨rfl, Ex.refl _⟩

/-- What is left of the list from place i on is the factorisation of what is left of n. -/
def Left (n : Int) (l : List (Int × Nat)) (i : Nat) (all last : Int) : Prop :=
  ∃ m : Int, 1 ≤ m ∧ all * m = n ∧ Fac m (l.drop i) ∧ ∀ d : Int, 2 ≤ d → d ≤ last → ¬ d ∣ m

theorem left_start {n : Int} {l : List (Int × Nat)} (hn : 1 ≤ n) (h : Fac n l) : Left n l 0 1 1 := ⟨n, hn, by omega, h, fun d h1 h2 => by omega⟩

theorem left_head {n : Int} {l : List (Int × Nat)} {i : Nat} {all last : Int} (h : Left n l i all last) (hi : i < l.length) :
    last < (nthP l i).1 ∧ Prm (nthP l i).1 ∧ 1 ≤ (nthP l i).2 := by
  obtain ⟨m, hm, _, hF, hno⟩ := h
  rw [List.drop_eq_getElem_cons hi] at hF
  rw [nthP_eq hi]
  generalize l[i] = x at *
  obtain ⟨q, k⟩ := x
  obtain ⟨hq, hk, _⟩ := hF
  refine ⟨?_, hq.prm, hk⟩
  refine Decidable.byContradiction fun hle => hno q hq.1 (by simp only at hle; omega) hq.2.1

/-- Where the head's power has been taken j times. -/
def Half (n : Int) (l : List (Int × Nat)) (i j : Nat) (all : Int) : Prop :=
  ∃ (m : Int) (r : Nat), 1 ≤ m ∧ j + r = (nthP l i).2 ∧ all * ((nthP l i).1 ^ r * m) = n ∧ Fac m (l.drop (i + 1)) ∧ ∀ d : Int, 2 ≤ d → d ≤ (nthP l i).1 → ¬ d ∣ m

theorem half_start {n : Int} {l : List (Int × Nat)} {i : Nat} {all last : Int} (h : Left n l i all last) (hi : i < l.length) : Half n l i 0 all := by
  obtain ⟨m, hm, hall, hF, hno⟩ := h
  rw [List.drop_eq_getElem_cons hi] at hF
  unfold Half
  rw [nthP_eq hi]
  generalize l[i] = x at *
  obtain ⟨q, k⟩ := x
  obtain ⟨hq, hk, m2, hm2, hmm, hnd, hF2⟩ := hF
  refine ⟨m2, k, hm2, by simp, by rw [← hmm]; exact hall, hF2, fun d h1 h2 h3 => ?_⟩
  simp only at h2
  rcases Int.lt_or_le d q with h4 | h4
  · exact hq.2.2 d h1 h4 (by rw [hmm]; exact Int.dvd_trans h3 (Int.dvd_mul_left _ _))
  · obtain rfl : d = q := by omega
    exact hnd h3

theorem half_end {n : Int} {l : List (Int × Nat)} {i j : Nat} {all : Int} (h : Half n l i j all) (hj : (nthP l i).2 ≤ j) : Left n l (i + 1) all (nthP l i).1 := by
  obtain ⟨m, r, hm, hr, hall, hF, hno⟩ := h
  obtain rfl : r = 0 := by omega
  exact ⟨m, hm, by simpa using hall, hF, hno⟩

theorem half_step {n : Int} {l : List (Int × Nat)} {i j : Nat} {all : Int} (h : Half n l i j all) (ha : 1 ≤ all) (hq : 2 ≤ (nthP l i).1) (hj : j < (nthP l i).2) :
    Half n l i (j + 1) (all * (nthP l i).1) ∧ 1 ≤ all * (nthP l i).1 ∧ all * (nthP l i).1 ≤ n := by
  obtain ⟨m, r, hm, hr, hall, hF, hno⟩ := h
  obtain ⟨r, rfl⟩ : ∃ s, r = s + 1 := ⟨r - 1, by omega⟩
  have e : all * (nthP l i).1 * ((nthP l i).1 ^ r * m) = n := by
    rw [← hall, Int.pow_succ, Int.mul_assoc, Int.mul_assoc, Int.mul_left_comm (nthP l i).1]
  have h1 : 1 ≤ all * (nthP l i).1 := by
    have : 1 * (nthP l i).1 ≤ all * (nthP l i).1 := Int.mul_le_mul_of_nonneg_right ha (by omega)
    omega
  refine ⟨⟨m, r, hm, by omega, e, hF, hno⟩, h1, ?_⟩
  have h2 := pow_gt hq r
  have h3 : 1 * 1 ≤ (nthP l i).1 ^ r * m := by
    have h4 : 1 * m ≤ (nthP l i).1 ^ r * m := Int.mul_le_mul_of_nonneg_right (by omega) (by omega)
    omega
  have h5 : all * (nthP l i).1 * 1 ≤ all * (nthP l i).1 * ((nthP l i).1 ^ r * m) := Int.mul_le_mul_of_nonneg_left (by omega) (by omega)
  rw [e] at h5
  omega

theorem left_end {n : Int} {l : List (Int × Nat)} {all last : Int} (h : Left n l l.length all last) : all = n := by
  obtain ⟨m, hm, hall, hF, _⟩ := h
  rw [List.drop_length] at hF
  have : m = 1 := hF
  rw [← hall, this]; omega

/-- The search for the next prime, from n on. -/
def Want (n want : Int) : Prop := (IsNext n want ∧ want ≤ 1000000) ∨ (want = 1000001 ∧ ∀ k : Int, n ≤ k → k ≤ 1000000 → ¬ Prm k)

theorem want_some (n : Int) : ∃ want, Want n want := by
  by_cases hp : ∃ p : Int, n ≤ p ∧ p ≤ 1000000 ∧ Prm p
  · obtain ⟨p, h1, h2, h3⟩ := hp
    obtain ⟨q, h4, h5⟩ := next_some (n := n) _ p rfl h1 h3
    exact ⟨q, .inl ⟨h4, by omega⟩⟩
  · exact ⟨1000001, .inr ⟨rfl, fun k h1 h2 h3 => hp ⟨k, h1, h2, h3⟩⟩⟩

theorem next_two : IsNext 0 2 := ⟨by omega, prm_two, fun k h1 h2 hp => by have := hp.1; omega⟩

set_option maxHeartbeats 1000000 in
theorem primeSays_out (n : Int) (w : World) (h : n < 0 ∨ 1000000 < n) : Calls Try.prog 3 #[.int .i64 n] w (Says (.bool true) w) := by
  have HI := Lib.hid h
  have HF : Hid (n < 1 ∨ 1000000 < n) := by rcases h with h | h; exact .inl (by omega); exact .inr h
  rcases h with h | h
  all_goals
    go_enter Try.func3, Try.ntmps3
    go_wp2_with (first
      | (go_at_call 8; refine (is_no _ _ HI.out).mono ?_; rintro e w1 ⟨rfl, hw1⟩)
      | (go_at_call 9; refine (next_no _ _ HI.out).mono ?_; rintro e w2 ⟨rfl, hw2⟩)
      | (go_at_call 10; refine (factor_no _ _ HF.out).mono ?_; rintro e w3 ⟨rfl, hw3⟩))
    go_ret
    exact ⟨rfl, (by repeat (first | assumption | exact Ex.refl _ | refine Ex.trans ?_ (by assumption)))⟩

set_option maxRecDepth 100000 in
set_option maxHeartbeats 1000000 in
theorem primeSays_zero (w : World) : Calls Try.prog 3 #[.int .i64 0] w (Says (.bool true) w) := by
  have p0 := pb_small (n := 0) (by omega)
  have p1 := pb_small (n := 1) (by omega)
  have p2 := (pb_iff 2).mpr prm_two
  go_enter Try.func3, Try.ntmps3
  go_wp2_with (first
    | (go_at_call 8; refine (is_ok 0 _ (by omega) (by omega)).mono ?_; rintro e w1 ⟨rfl, hw1⟩; rw [p0])
    | (go_at_call 9; refine (next_ok 0 2 _ (by omega) next_two (by omega)).mono ?_; rintro e w2 ⟨rfl, hw2⟩)
    | (go_at_call 10; refine (factor_no 0 _ (.inl (by omega))).mono ?_; rintro e w3 ⟨rfl, hw3⟩)
    | (go_at_call 11; refine (refPrime_ok 0 _ (by omega)).mono ?_; rintro e w4 ⟨rfl, hw4⟩; rw [p0]))
  refine wp_loop_rounds 3 ?_
  rw [rounds_succ]
  go_wp2_with (go_at_call 11; refine (refPrime_ok 0 _ (by omega)).mono ?_; rintro e w5 ⟨rfl, hw5⟩; rw [p0])
  rw [rounds_succ]
  go_wp2_with (go_at_call 11; refine (refPrime_ok 1 _ (by omega)).mono ?_; rintro e w6 ⟨rfl, hw6⟩; rw [p1])
  rw [rounds_succ]
  go_wp2_with (go_at_call 11; refine (refPrime_ok 2 _ (by omega)).mono ?_; rintro e w7 ⟨rfl, hw7⟩; rw [p2])
  go_ret
  exact ⟨rfl, (by repeat (first | assumption | exact Ex.refl _ | refine Ex.trans ?_ (by assumption)))⟩


set_option maxRecDepth 100000 in
set_option maxHeartbeats 2000000 in
theorem primeSays_found (n p : Int) (w : World) (h1 : 1 ≤ n) (h2 : n ≤ 1000000) (hp : IsNext n p) (hp2 : p ≤ 1000000) : Calls Try.prog 3 #[.int .i64 n] w (Says (.bool true) w) := by
  have HN := Lib.hid hp
  have hle := hp.1
  have hn0 : (n == 0) = false := by simp; omega
  clear hp
  go_enter Try.func3, Try.ntmps3
  go_wp2_with (first
    | (go_at_call 8; refine (is_ok n _ (by omega) (by omega)).mono ?_; rintro e w1 ⟨rfl, hw1⟩)
    | (go_at_call 9; refine (next_ok n p _ (by omega) HN.out (by omega)).mono ?_; rintro e w2 ⟨rfl, hw2⟩)
    | (go_at_call 10; refine (factor_reads n _ (by omega) (by omega)).mono ?_; rintro e w3 ⟨ad, cap, l, rfl, hF, hl, hr, hw3⟩)
    | (go_at_call 11; refine (refPrime_ok n _ (by omega)).mono ?_; rintro e w4 ⟨rfl, hw4⟩))
  have HR4 := Lib.hid (hr.out.ex hw4)
  have HW4 : Hid (Ex w w4) := Lib.hid (by repeat (first | assumption | exact Ex.refl _ | refine Ex.trans ?_ (by assumption)))
  clear hw1 hw2 hw3 hw4 hr
  go_loopg [9] (p - n).toNat (fun k v9 wr => ∃ d : Int, n ≤ d ∧ d ≤ p ∧ v9 = .int .i64 d ∧ Hid (k = (p - d).toNat) ∧ Ex w4 wr)
  case atStart => exact ⟨n, by omega, by omega, rfl, Lib.hid rfl, Ex.refl _⟩
  case round =>
    obtain ⟨d, hd1, hd2, rfl, hk, hw⟩ := hrel
    by_cases he : d < p
    · have hpb := pb_no (HN.out.2.2 d hd1 he)
      go_wp2_with (go_at_call 11; refine (refPrime_ok d _ (by omega)).mono ?_; rintro e w5 ⟨rfl, hw5⟩; rw [hpb])
      go_roundg (p - (d + 1)).toNat
      case measure => have := hk.out; omega
      case rel => exact ⟨d + 1, by omega, by omega, rfl, Lib.hid rfl, hw.trans hw5⟩
    · obtain rfl : d = p := by omega
      have hpb := (pb_iff d).mpr HN.out.2.1
      go_wp2_with (go_at_call 11; refine (refPrime_ok d _ (by omega)).mono ?_; rintro e wF ⟨rfl, hw5⟩; rw [hpb])
      have hr := Lib.hid (HR4.out.ex (hw.trans hw5))
      have HW := Lib.hid (HW4.out.trans (hw.trans hw5))
      clear HR4 hpb
      have hll := hl.out
      go_loopg [10, 11, 104] l.length (fun k v10 v11 v104 x0 => ∃ (i : Nat) (all last : Int), i ≤ l.length ∧ 1 ≤ all ∧ all ≤ n ∧ 1 ≤ last ∧ last ≤ 1000000 ∧ v10 = .int .i64 all ∧ v11 = .int .i64 last ∧ v104 = .int .i64 i ∧ Hid (Left n l i all last) ∧ Hid (k = l.length - i) ∧ Ex wF x0)
      case atStart => exact ⟨0, 1, 1, Nat.zero_le _, by omega, by omega, by omega, by omega, rfl, rfl, rfl, Lib.hid (left_start h1 hF.out), Lib.hid rfl, Ex.refl _⟩
      case round =>
        obtain ⟨i, all, last, hi, ha1, ha2, hl1, hl2, rfl, rfl, rfl, hL, hk, hw⟩ := hrel
        by_cases hlt : i < l.length
        · rcases (hr.out.ex hw) with ⟨rfl, rfl, rfl⟩ | ⟨g, rfl, hc⟩
          · exact absurd hlt (Nat.not_lt_zero _)
          have hc0 := (hc i hlt).1
          have hc1 := (hc i hlt).2
          clear hc
          obtain ⟨g1, g2, g3⟩ := left_head hL.out hlt
          obtain ⟨bk, bp, bq⟩ := fac_k (p := (nthP l i).1) (k := (nthP l i).2) hF.out h1 (nthP_mem hlt)
          have HH := Lib.hid (half_start hL.out hlt)
          have HE : Hid (∀ (j : Nat) (all : Int), Half n l i j all → (nthP l i).2 ≤ j → Left n l (i + 1) all (nthP l i).1) := fun j all h hj => half_end h hj
          have HS : Hid (∀ (j : Nat) (all : Int), Half n l i j all → 1 ≤ all → j < (nthP l i).2 → Half n l i (j + 1) (all * (nthP l i).1) ∧ 1 ≤ all * (nthP l i).1 ∧ all * (nthP l i).1 ≤ n) := fun j all h ha hj => half_step h ha bp hj
          obtain ⟨Hf, hHf⟩ : ∃ Hf : Nat → Int → Prop, Hf = Half n l i := ⟨_, rfl⟩
          rw [← hHf] at HH HE HS
          clear hHf hL
          obtain ⟨P, hP⟩ : ∃ P : Int, (nthP l i).1 = P := ⟨_, rfl⟩
          obtain ⟨K, hK⟩ : ∃ K : Nat, (nthP l i).2 = K := ⟨_, rfl⟩
          rw [hP] at hc0 g1 g2 bp bq HE HS
          rw [hK] at hc1 g3 bk HE HS
          clear hP hK
          have hpb := (pb_iff P).mpr g2
          have HB : Hid ((wr.alloc (.cells #[.int .i64 P, .int .i64 (K : Nat)] 32)).heap[wr.heap.size]? = some (.cells #[.int .i64 P, .int .i64 (K : Nat)] 32 (0, 0))) := heap_alloc_new _ _
          have HP := Lib.hid g2
          clear g2
          go_wp2_with (
            (go_at_call 11; refine (refPrime_ok P _ (by omega)).mono ?_; rintro e w7 ⟨rfl, hw7⟩; rw [hpb]; have hq0 := hw7.cell (cell_two0 HB.out); have hq1 := hw7.cell (cell_two1 HB.out)))
          have HQ0 := Lib.hid (hw7.cell (cell_two0 HB.out))
          have HX7 := Lib.hid ((hw.alloc _).trans hw7)
          clear HB hc0 hc1 hw7
          go_loopg [10, 127] K (fun k v10 v127 x => ∃ (j : Nat) (all : Int), j ≤ K ∧ 1 ≤ all ∧ all ≤ n ∧ v10 = .int .i64 all ∧ v127 = .int .i64 j ∧ Hid (Hf j all) ∧ Hid (k = K - j) ∧ Ex w7 x)
          case atStart => exact ⟨0, all, by omega, ha1, ha2, rfl, rfl, HH, Lib.hid rfl, Ex.refl _⟩
          case round =>
            obtain ⟨j, all2, hj, hb1, hb2, rfl, rfl, hH, hk2, hx⟩ := hrel
            by_cases hjt : j < K
            · obtain ⟨s1, s2, s3⟩ := HS.out j all2 hH.out hb1 hjt
              have HN := Lib.hid s1
              have hq := hx.cell HQ0.out
              clear s1
              go_wp2
              go_roundg (K - (j + 1))
              case measure => have := hk2.out; omega
              case rel => exact ⟨j + 1, all2 * P, by omega, s2, s3, rfl, by go_num, HN, Lib.hid rfl, hx⟩
            · go_wp2
              go_roundg (l.length - (i + 1))
              case measure => have := hk.out; omega
              case rel => exact ⟨i + 1, all2, P, by omega, hb1, hb2, by omega, by omega, rfl, rfl, by go_num, Lib.hid (HE.out j all2 hH.out (by omega)), Lib.hid rfl, HX7.out.trans hx⟩
        · have e : i = l.length := by omega
          subst e
          have e2 := left_end hL.out
          have HE2 := Lib.hid e2
          clear e2
          go_wp2
          go_ret
          exact ⟨by simp [HE2.out], HW.out.trans hw⟩

set_option maxRecDepth 100000 in
set_option maxHeartbeats 2000000 in
theorem primeSays_none (n : Int) (w : World) (h1 : 1 ≤ n) (h2 : n ≤ 1000000) (hp : ∀ k : Int, n ≤ k → k ≤ 1000000 → ¬ Prm k) : Calls Try.prog 3 #[.int .i64 n] w (Says (.bool true) w) := by
  have HN := Lib.hid hp
  have hn0 : (n == 0) = false := by simp; omega
  clear hp
  go_enter Try.func3, Try.ntmps3
  go_wp2_with (first
    | (go_at_call 8; refine (is_ok n _ (by omega) (by omega)).mono ?_; rintro e w1 ⟨rfl, hw1⟩)
    | (go_at_call 9; refine (next_none n _ (by omega) (by omega) HN.out).mono ?_; rintro e w2 ⟨rfl, hw2⟩)
    | (go_at_call 10; refine (factor_reads n _ (by omega) (by omega)).mono ?_; rintro e w3 ⟨ad, cap, l, rfl, hF, hl, hr, hw3⟩)
    | (go_at_call 11; refine (refPrime_ok n _ (by omega)).mono ?_; rintro e w4 ⟨rfl, hw4⟩))
  have HR4 := Lib.hid (hr.out.ex hw4)
  have HW4 : Hid (Ex w w4) := Lib.hid (by repeat (first | assumption | exact Ex.refl _ | refine Ex.trans ?_ (by assumption)))
  clear hw1 hw2 hw3 hw4 hr
  go_loopg [9] (1000001 - n).toNat (fun k v9 wr => ∃ d : Int, n ≤ d ∧ d ≤ 1000001 ∧ v9 = .int .i64 d ∧ Hid (k = (1000001 - d).toNat) ∧ Ex w4 wr)
  case atStart => exact ⟨n, by omega, by omega, rfl, Lib.hid rfl, Ex.refl _⟩
  case round =>
    obtain ⟨d, hd1, hd2, rfl, hk, hwF⟩ := hrel
    by_cases he : d < 1000001
    · have hpb := pb_no (HN.out d hd1 (by omega))
      go_wp2_with (go_at_call 11; refine (refPrime_ok d _ (by omega)).mono ?_; rintro e w5 ⟨rfl, hw5⟩; rw [hpb])
      go_roundg (1000001 - (d + 1)).toNat
      case measure => have := hk.out; omega
      case rel => exact ⟨d + 1, by omega, by omega, rfl, Lib.hid rfl, hwF.trans hw5⟩
    · obtain rfl : d = 1000001 := by omega
      go_wp2
      have hr := Lib.hid (HR4.out.ex hwF)
      have HW := Lib.hid (HW4.out.trans hwF)
      clear HR4
      have hll := hl.out
      go_loopg [10, 11, 104] l.length (fun k v10 v11 v104 x0 => ∃ (i : Nat) (all last : Int), i ≤ l.length ∧ 1 ≤ all ∧ all ≤ n ∧ 1 ≤ last ∧ last ≤ 1000000 ∧ v10 = .int .i64 all ∧ v11 = .int .i64 last ∧ v104 = .int .i64 i ∧ Hid (Left n l i all last) ∧ Hid (k = l.length - i) ∧ Ex wr x0)
      case atStart => exact ⟨0, 1, 1, Nat.zero_le _, by omega, by omega, by omega, by omega, rfl, rfl, rfl, Lib.hid (left_start h1 hF.out), Lib.hid rfl, Ex.refl _⟩
      case round =>
        obtain ⟨i, all, last, hi, ha1, ha2, hl1, hl2, rfl, rfl, rfl, hL, hk, hw⟩ := hrel
        by_cases hlt : i < l.length
        · rcases (hr.out.ex hw) with ⟨rfl, rfl, rfl⟩ | ⟨g, rfl, hc⟩
          · exact absurd hlt (Nat.not_lt_zero _)
          have hc0 := (hc i hlt).1
          have hc1 := (hc i hlt).2
          clear hc
          obtain ⟨g1, g2, g3⟩ := left_head hL.out hlt
          obtain ⟨bk, bp, bq⟩ := fac_k (p := (nthP l i).1) (k := (nthP l i).2) hF.out h1 (nthP_mem hlt)
          have HH := Lib.hid (half_start hL.out hlt)
          have HE : Hid (∀ (j : Nat) (all : Int), Half n l i j all → (nthP l i).2 ≤ j → Left n l (i + 1) all (nthP l i).1) := fun j all h hj => half_end h hj
          have HS : Hid (∀ (j : Nat) (all : Int), Half n l i j all → 1 ≤ all → j < (nthP l i).2 → Half n l i (j + 1) (all * (nthP l i).1) ∧ 1 ≤ all * (nthP l i).1 ∧ all * (nthP l i).1 ≤ n) := fun j all h ha hj => half_step h ha bp hj
          obtain ⟨Hf, hHf⟩ : ∃ Hf : Nat → Int → Prop, Hf = Half n l i := ⟨_, rfl⟩
          rw [← hHf] at HH HE HS
          clear hHf hL
          obtain ⟨P, hP⟩ : ∃ P : Int, (nthP l i).1 = P := ⟨_, rfl⟩
          obtain ⟨K, hK⟩ : ∃ K : Nat, (nthP l i).2 = K := ⟨_, rfl⟩
          rw [hP] at hc0 g1 g2 bp bq HE HS
          rw [hK] at hc1 g3 bk HE HS
          clear hP hK
          have hpb := (pb_iff P).mpr g2
          have HB : Hid ((wr.alloc (.cells #[.int .i64 P, .int .i64 (K : Nat)] 32)).heap[wr.heap.size]? = some (.cells #[.int .i64 P, .int .i64 (K : Nat)] 32 (0, 0))) := heap_alloc_new _ _
          have HP := Lib.hid g2
          clear g2
          go_wp2_with (
            (go_at_call 11; refine (refPrime_ok P _ (by omega)).mono ?_; rintro e w7 ⟨rfl, hw7⟩; rw [hpb]; have hq0 := hw7.cell (cell_two0 HB.out); have hq1 := hw7.cell (cell_two1 HB.out)))
          have HQ0 := Lib.hid (hw7.cell (cell_two0 HB.out))
          have HX7 := Lib.hid ((hw.alloc _).trans hw7)
          clear HB hc0 hc1 hw7
          go_loopg [10, 127] K (fun k v10 v127 x => ∃ (j : Nat) (all : Int), j ≤ K ∧ 1 ≤ all ∧ all ≤ n ∧ v10 = .int .i64 all ∧ v127 = .int .i64 j ∧ Hid (Hf j all) ∧ Hid (k = K - j) ∧ Ex w7 x)
          case atStart => exact ⟨0, all, by omega, ha1, ha2, rfl, rfl, HH, Lib.hid rfl, Ex.refl _⟩
          case round =>
            obtain ⟨j, all2, hj, hb1, hb2, rfl, rfl, hH, hk2, hx⟩ := hrel
            by_cases hjt : j < K
            · obtain ⟨s1, s2, s3⟩ := HS.out j all2 hH.out hb1 hjt
              have HN := Lib.hid s1
              have hq := hx.cell HQ0.out
              clear s1
              go_wp2
              go_roundg (K - (j + 1))
              case measure => have := hk2.out; omega
              case rel => exact ⟨j + 1, all2 * P, by omega, s2, s3, rfl, by go_num, HN, Lib.hid rfl, hx⟩
            · go_wp2
              go_roundg (l.length - (i + 1))
              case measure => have := hk.out; omega
              case rel => exact ⟨i + 1, all2, P, by omega, hb1, hb2, by omega, by omega, rfl, rfl, by go_num, Lib.hid (HE.out j all2 hH.out (by omega)), Lib.hid rfl, HX7.out.trans hx⟩
        · have e : i = l.length := by omega
          subst e
          have e2 := left_end hL.out
          have HE2 := Lib.hid e2
          clear e2
          go_wp2
          go_ret
          exact ⟨by simp [HE2.out], HW.out.trans hw⟩

theorem primeSays_walk (n : Int) (w : World) (_ : I64 n) : Calls Try.prog 3 #[.int .i64 n] w (Says (.bool true) w) := by
  by_cases h : n < 0 ∨ 1000000 < n
  · exact primeSays_out n w h
  · by_cases h0 : n = 0
    · subst h0; exact primeSays_zero w
    · obtain ⟨p, hp | hp⟩ := want_some n
      · exact primeSays_found n p w (by omega) (by omega) hp.1 hp.2
      · exact primeSays_none n w (by omega) (by omega) hp.2

end Go.Proofs.Ytcgcjecmlnohbaa
