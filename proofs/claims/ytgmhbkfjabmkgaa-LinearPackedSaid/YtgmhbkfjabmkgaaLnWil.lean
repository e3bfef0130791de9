/-
  LinearWilliams, by contracts.
-/
import Derived.Test.YtgmhbkfjabmkgaaLnSays
import Derived.Test.YtgmhbkfjabmkgaaLnKeep
import Derived.Test.YtgmhbkfjabmkgaaBiWalks
import Derived.Deep.CutRange
import Derived.Deep.DeepCutAuto
namespace Go.Proofs.Ytgmhbkfjabmkgaa
open Go.RowKit
open Ln Dd Rs

namespace Ln
theorem sgn_par : ∀ s, sgn s = if s % 2 = 1 then -1 else 1 := by
  intro s
  induction s with
  | zero => rfl
  | succ s ih =>
    rw [sgn, ih]
    by_cases h : s % 2 = 1
    · rw [if_pos h, if_neg (by omega)]; rfl
    · rw [if_neg h, if_pos (by omega)]
theorem ch_small {n : Nat} (hn : n ≤ 12) (k : Nat) : ch n k ≤ 4096 := by
  have h1 := weight_count n k
  have h2 := wn_le n (List.range (2 ^ n)) k
  unfold wn at h2
  rw [h1, List.length_range] at h2
  have h3 : 2 ^ n ≤ 2 ^ 12 := Nat.pow_le_pow_right (by decide) hn
  omega
/-- KRAWTCHOUK's sum on its way. -/
def kp (i q j s : Nat) : Int := sm (fun s => sgn s * ((ch i s : Nat) * (ch q (j - s) : Nat))) (List.range s)
theorem kp_all (i q j : Nat) : kp i q j (j + 1) = kf i q j := rfl
theorem sm_last (F : Nat → Int) (s : Nat) : sm F (List.range (s + 1)) = sm F (List.range s) + F s := by
  rw [List.range_succ, sm_append]
  simp [sm]
theorem kp_step (i q j s : Nat) : kp i q j (s + 1) = kp i q j s + sgn s * ((ch i s : Nat) * (ch q (j - s) : Nat)) := sm_last _ s
theorem prod_small {i q : Nat} (hi : i ≤ 12) (hq : q ≤ 12) (s t : Nat) : 0 ≤ ((ch i s : Nat) : Int) * ((ch q t : Nat) : Int) ∧ ((ch i s : Nat) : Int) * ((ch q t : Nat) : Int) ≤ 16777216 := by
  rw [← Int.natCast_mul]
  have : ch i s * ch q t ≤ 4096 * 4096 := Nat.mul_le_mul (ch_small hi s) (ch_small hq t)
  omega
theorem kp_bound {i q : Nat} (hi : i ≤ 12) (hq : q ≤ 12) (j : Nat) : ∀ s : Nat, -((s : Int) * 16777216) ≤ kp i q j s ∧ kp i q j s ≤ (s : Int) * 16777216 := by
  intro s
  induction s with
  | zero => exact ⟨by show _ ≤ (0 : Int); omega, by show (0 : Int) ≤ _; omega⟩
  | succ s ih =>
    have h := prod_small hi hq s (j - s)
    rw [kp_step, sgn_par]
    by_cases e : s % 2 = 1
    · rw [if_pos e]; omega
    · rw [if_neg e]; omega
/-- The law's sum over weights, on its way. -/
def xp (n : Nat) (W : List Nat) (j i : Nat) : Int := sm (fun t => wn n W t * kf t (n - t) j) (List.range i)
theorem xp_step (n : Nat) (W : List Nat) (j i : Nat) : xp n W j (i + 1) = xp n W j i + wn n W i * kf i (n - i) j := sm_last _ i
theorem sum_at {n k : Nat} (h : k < n) (F : Nat → Int) : sm (fun t => (if k = t then 1 else 0) * F t) (List.range n) = F k := by
  induction n with
  | zero => omega
  | succ n ih =>
    rw [sm_last]
    by_cases e : k = n
    · subst e
      rw [if_pos rfl, sm_congr (H := fun _ => 0) fun t ht => by
        have := List.mem_range.mp ht
        rw [if_neg (by omega), Int.zero_mul], sum_zero]
      omega
    · rw [ih (by omega), if_neg e]
      omega
/-- What is summed by words may be summed by weights. -/
theorem by_weight (n : Nat) (F : Nat → Int) : ∀ W : List Nat, sm (fun c => F (on n c)) W = sm (fun t => wn n W t * F t) (List.range (n + 1)) := by
  intro W
  induction W with
  | nil =>
    show (0 : Int) = _
    rw [sm_congr (H := fun _ => 0) fun t _ => by show (0 : Int) * _ = 0; rw [Int.zero_mul], sum_zero]
  | cons c W ih =>
    show F (on n c) + sm (fun c => F (on n c)) W = _
    rw [ih, ← sum_at (k := on n c) (n := n + 1) (by have := on_le n c; omega) F, ← sum_add]
    refine sm_congr fun t _ => ?_
    show _ = ((if on n c = t then 1 else 0) + wn n W t) * F t
    rw [Int.add_mul]
theorem xp_all {n : Nat} {W : List Nat} (h : Cd n W) (j : Nat) : xp n W j (n + 1) = (W.length : Int) * wn n (du n W) j := by
  rw [h.williams, ← by_weight n (fun t => kr t (n - t) j) W |>.symm]
  unfold xp
  refine sm_congr fun t _ => ?_
  rw [kr_sum]
theorem wn_total (n : Nat) (W : List Nat) : sm (wn n W) (List.range (n + 1)) = (W.length : Int) := by
  have h := by_weight n (fun _ => 1) W
  rw [sm_congr (l := List.range (n + 1)) (H := wn n W) fun t _ => Int.mul_one _] at h
  rw [← h]
  clear h
  induction W with
  | nil => rfl
  | cons c W ih =>
    show 1 + sm (fun _ => 1) W = _
    rw [ih, List.length_cons]
    omega
theorem kf_bound {i q : Nat} (hi : i ≤ 12) (hq : q ≤ 12) {j : Nat} (hj : j ≤ 12) : -218103808 ≤ kf i q j ∧ kf i q j ≤ 218103808 := by
  have := kp_bound hi hq j (j + 1)
  rw [kp_all] at this
  omega
theorem term_bound {a k : Int} (h1 : 0 ≤ a) (h2 : a ≤ 64) (h3 : -218103808 ≤ k) (h4 : k ≤ 218103808) : -13958643712 ≤ a * k ∧ a * k ≤ 13958643712 := by
  have e1 : a * k ≤ a * 218103808 := Int.mul_le_mul_of_nonneg_left h4 h1
  have e2 : a * (-218103808) ≤ a * k := Int.mul_le_mul_of_nonneg_left h3 h1
  omega
theorem xp_bound {n : Nat} {W : List Nat} (hn : n ≤ 12) (hW : W.length ≤ 64) {j : Nat} (hj : j ≤ 12) : ∀ i : Nat, i ≤ n + 1 → -((i : Int) * 13958643712) ≤ xp n W j i ∧ xp n W j i ≤ (i : Int) * 13958643712 := by
  intro i
  induction i with
  | zero => intro _; exact ⟨by show _ ≤ (0 : Int); omega, by show (0 : Int) ≤ _; omega⟩
  | succ i ih =>
    intro hi
    have h1 := ih (by omega)
    have h2 := kf_bound (i := i) (q := n - i) (by omega) (by omega) hj
    have h3 := wn_le n W i
    have h4 := term_bound (wn_nonneg n W i) (by omega) h2.1 h2.2
    rw [xp_step]
    omega
end Ln

theorem wts_35 : wts 3 (cw 3 [3, 5]) = [1, 0, 3, 0] := by rw [cw_35]; decide +kernel
theorem wts_nth {n j : Nat} (W : List Nat) (h : j < n + 1) : nth (wts n W) j = wn n W j := fl_nth h

set_option maxHeartbeats 1000000 in
theorem sum_any (n N : Nat) (W : List Nat) (a : Option Addr) (ca : Nat) (w : World) (hn : n ≤ 12) (hN : W.length = N) (hN64 : N ≤ 64) (hr : Reads w .i64 a (wts n W)) :
    Calls Try.prog 32 #[.slice a (n + 1) ca] w (Says (.int .i64 (N : Int)) w) := by
  rcases hr with h | ⟨g, o, rfl, hc⟩
  · have := congrArg List.length h
    rw [wts_length] at this
    simp at this
  have HC : Hid (∀ i, i < n + 1 → w.cell? ⟨g, o + i, none⟩ = some (.int .i64 (wn n W i))) := Lib.hid fun i hi => by
    rw [hc i (by rw [wts_length]; exact hi), wts_nth W hi]
  have HB : Hid (∀ i, 0 ≤ wn n W i ∧ wn n W i ≤ 64) := Lib.hid fun i => ⟨wn_nonneg n W i, by have := wn_le n W i; omega⟩
  have HT := Lib.hid (wn_total n W)
  have HSB : Hid (∀ i, i ≤ n + 1 → 0 ≤ sm (wn n W) (List.range i) ∧ sm (wn n W) (List.range i) ≤ (i : Int) * 64) := Lib.hid fun i => by
    induction i with
    | zero => intro _; exact ⟨Int.le_refl _, by show (0 : Int) ≤ _; omega⟩
    | succ i ih =>
      intro hi
      have := ih (by omega)
      have := HB.out i
      rw [sm_last]
      omega
  have HN := Lib.hid hN
  obtain ⟨L, hL⟩ : ∃ L, n + 1 = L := ⟨_, rfl⟩
  rw [hL] at HC HT HSB ⊢
  clear hc hN
  go_enter Try.func32, Try.ntmps32
  go_wp2
  go_loopg [3, 8] L (fun k v3 v8 wr => ∃ (i : Nat) (s : Int), i ≤ L ∧ v3 = .int .i64 s ∧ v8 = .int .i64 (i : Int) ∧ Hid (s = sm (wn n W) (List.range i)) ∧ Hid (k = L - i) ∧ w = wr)
  case atStart => exact ⟨0, 0, by omega, rfl, rfl, Lib.hid rfl, Lib.hid rfl, rfl⟩
  case round =>
    obtain ⟨i, s, hi, rfl, rfl, hs, hk, rfl⟩ := hrel
    by_cases hlt : i < L
    · have q1 := HC.out i hlt
      have b1 := HB.out i
      have b2 := HSB.out i hi
      rw [← hs.out] at b2
      obtain ⟨x, hx⟩ : ∃ x, wn n W i = x := ⟨_, rfl⟩
      rw [hx] at q1 b1
      have HS : Hid (s + x = sm (wn n W) (List.range (i + 1))) := Lib.hid (by rw [sm_last, ← hs.out, hx])
      have b3 : 0 ≤ s ∧ s ≤ 832 := ⟨b2.1, by omega⟩
      clear hx b2
      go_wp2
      go_roundg (L - (i + 1))
      case measure => have := hk.out; omega
      case rel => exact ⟨i + 1, s + x, by omega, by go_num, by go_num, HS, Lib.hid rfl, rfl⟩
    · have e : i = L := by omega
      subst e
      have HE : Hid (s = (N : Int)) := Lib.hid (by rw [hs.out, HT.out, HN.out])
      go_wp2
      go_ret
      exact ⟨by rw [HE.out]; rfl, Ex.refl _⟩

theorem choose_any (n k : Nat) (w : World) (hn : n ≤ 60) : Calls Try.prog 33 #[.int .i64 (n : Int), .int .i64 (k : Int)] w (Says (.int .i64 ((ch n k : Nat) : Int)) w) := by
  by_cases h : k ≤ n
  · exact chooseOf_in n k w hn h
  · rw [ch_big n k (by omega)]
    exact chooseOf_out n k w (.inr (by omega))

set_option maxRecDepth 100000 in
set_option maxHeartbeats 4000000 in
theorem linearWilliams_of (HT : WeightsC) (HD : DualC) (HW : WordsC) (HB : BaseC) (n : Int) (a : Option Addr) (la ca : Nat) (z : List Int) (w : World) (hn : I64 n) (ha : IsInts .u16 2 w a la ca z) :
    Calls Try.prog 9 #[.int .i64 n, .slice a la ca] w (Says (.bool true) w) := by
  have HY := Lib.hid fun w => words_yes HW HB w
  have H1 : Hid (∀ w, Calls Try.prog 12 #[.int .i64 3, .slice (some ⟨w.heap.size, 0, none⟩) 2 2] (w.alloc (.cells #[.int .u16 3, .int .u16 5] 33)) (Vec3 .i64 4 [1, 0, 3, 0] w)) := Lib.hid fun w => by
    have := HT.ok (n := 3) (L := 2) (M := 4) (l := [3, 5]) (xs := [1, 0, 3, 0]) (ca := 2) (by omega) (by omega) rfl (by omega) (by omega) (by omega) lt_35 wts_35 rfl (lit_35 w 33)
    exact this.mono fun e w2 ⟨a2, c2, h1, h2, h3, h4⟩ => ⟨a2, c2, h1, h2, h3, ((Ex.refl w).alloc _).trans h4⟩
  have H3 : Hid (∀ w a2 c2, Reads w .i64 a2 [1, 0, 3, 0] → Calls Try.prog 21 #[.slice a2 4 c2, .slice (some ⟨w.heap.size, 0, none⟩) 4 4] (w.alloc (.cells #[.int .i64 1, .int .i64 0, .int .i64 3, .int .i64 0] 3)) (Says (.bool true) w)) := Lib.hid fun w a2 c2 h =>
    (int_equal (xs := [1, 0, 3, 0]) (ys := [1, 0, 3, 0]) rfl rfl (by decide) (by decide) (h.ex ((Ex.refl w).alloc _)) (row_new 3 .i64 w w.heap.size (Nat.le_refl _) [1, 0, 3, 0] _ rfl (by decide)).read true (by decide)).mono fun e w2 ⟨h1, h2⟩ => ⟨h1, ((Ex.refl w).alloc _).trans h2⟩
  by_cases h0 : lnE n z = 0
  · by_cases h1 : duE n z = 0
    · obtain ⟨m, l, rfl, hm, hl, m1, m12, hlL, la6, hac, hcb, hlt, hz, hr⟩ := ln_in ha h0
      have hW64 := cw_64 hlL la6 hlt
      have hcd := cw_cd hlt
      have h16 : m ≤ 16 := by omega
      have hdu : m - (bs (cw m l)).length ≤ 6 := by
        unfold duE at h1
        rw [if_neg (by simpa using h0), Int.toNat_natCast, ← hl] at h1
        by_cases h : 6 < (m : Int) - ((bs (cw m l)).length : Int)
        · rw [if_pos h] at h1; cases h1
        · omega
      obtain ⟨W, hWW⟩ : ∃ W, cw m l = W := ⟨_, rfl⟩
      rw [hWW] at hdu hcd hW64
      have hboth := bs_both hcd h16
      have hdl := bs_lt (du_cd m W) h16
      have hcwd := cw_bs (du_cd m W) h16 (du_lt m W)
      obtain ⟨dx, hdx⟩ : ∃ xs, il (bs (du m W)) = xs := ⟨_, rfl⟩
      obtain ⟨D, hD⟩ : ∃ D, dx.length = D := ⟨_, rfl⟩
      have hDl : (bs (du m W)).length = D := by rw [← hD, ← hdx, il_length]
      rw [hDl] at hboth
      obtain ⟨N, hN⟩ : ∃ N, W.length = N := ⟨_, rfl⟩
      rw [hN] at hW64
      have HWB : Hid (∀ j, 0 ≤ wn m W j ∧ wn m W j ≤ 64) := Lib.hid fun j => ⟨wn_nonneg m W j, by have := wn_le m W j; omega⟩
      have HUB : Hid (∀ j, 0 ≤ wn m (du m W) j ∧ wn m (du m W) j ≤ 4096) := Lib.hid fun j => ⟨wn_nonneg m _ j, by have := wn_le m (du m W) j; have := (du_small m12 W).2; omega⟩
      have HXA : Hid (∀ j, xp m W j (m + 1) = (N : Int) * wn m (du m W) j) := Lib.hid fun j => by rw [xp_all hcd, hN]
      have HXB := Lib.hid fun j (hj : j ≤ 12) => xp_bound (n := m) (W := W) m12 (by omega) hj
      have HSU := Lib.hid fun w2 a2 c2 (h : Reads w2 .i64 a2 (wts m W)) => sum_any m N W a2 c2 w2 m12 hN hW64 h
      have HCH := Lib.hid fun w2 (A Z : Int) (p q : Nat) (h1 : A = (p : Int)) (h2 : Z = (q : Int)) (h3 : p ≤ 60) => (show Calls Try.prog 33 #[.int .i64 A, .int .i64 Z] w2 (Says (.int .i64 ((ch p q : Nat) : Int)) w2) by rw [h1, h2]; exact choose_any p q w2 h3)
      have HDU := Lib.hid fun w2 (k : Ex w w2) => HD.ok (xs := dx) (M := D) m1 m12 hlL la6 hac hcb hlt (by rw [hWW]; exact hdu) (by rw [hWW]; exact hdx) hD (hr.ex k)
      have HWT := Lib.hid fun w2 (k : Ex w w2) => HT.ok (xs := wts m W) (M := m + 1) m1 m12 hlL la6 hac hcb hlt (by rw [hWW]) (wts_length m W) (hr.ex k)
      have HW2 := Lib.hid fun w2 a2 c2 (h1 : D ≤ c2) (h2 : c2 ≤ 9223372036854775807) (h : Reads w2 .u16 a2 dx) => HT.ok (l := bs (du m W)) (xs := wts m (du m W)) (M := m + 1) m1 m12 hDl (by omega) h1 h2 hdl (by rw [hcwd]) (wts_length m _) (by rw [hdx]; exact h)
      have HGZ := Lib.hid (good_zeros 2 (by omega) #[.int .i64 0, .int .i64 0] rfl 23)
      clear ha hn HD HW HB HT h0 h1 hm hl hlt hz hr hcd hdu hWW hboth hdl hcwd hdx hD hDl hlL hN
      go_enter Try.func9, Try.ntmps9
      go_upto_region 8 with (first
        | (go_at_call 12; (with_reducible refine (H1.out _).mono ?_); rintro e w0 ⟨a0, c0, rfl, hc0, hR0, hw0⟩
           clear H1)
        | (go_at_call 21; (with_reducible refine (H3.out _ _ _ hR0.out).mono ?_); rintro e w1 ⟨rfl, hw1⟩
           have hx1 := hw0.trans hw1)
        | (go_at_call 24; (with_reducible refine (HY.out _).mono ?_); rintro e w2 ⟨rfl, hw2⟩
           have hx2 := hx1.trans hw2)
        | (go_at_call 22; (with_reducible refine (HDU.out _ hx2).mono ?_); rintro e w3 ⟨a3, c3, rfl, hc3, hR3, hw3⟩
           have hx3 := hx2.trans hw3
           have hcap := hc3.out)
        | (go_at_call 12; (with_reducible refine (HWT.out _ hx3).mono ?_); rintro e w4 ⟨a4, c4, rfl, hc4, hR4, hw4⟩
           have HX4 := Lib.hid (hx3.trans hw4)
           have HR3 := Lib.hid (hR3.out.ex hw4)))
      clear hR0 hR3 hx1 hx2 hx3 hw0 hw1 hw2 hw3 hw4
      go_upto_region 9 with (go_at_call 12; (with_reducible refine (HW2.out _ _ _ hcap.1 hcap.2 HR3.out).mono ?_); rintro e w5 ⟨a5, c5, rfl, hc5, hR5, hw5⟩)
      have HR4 := Lib.hid (hR4.out.ex hw5)
      have HX5 := Lib.hid (HX4.out.trans hw5)
      clear hR4 hw5 HX4 HR3
      go_upto_region 11 with (go_at_call 26; (refine (HGZ.out _).mono ?_); rintro e w6 ⟨rfl, hw6⟩)
      have HR46 := Lib.hid (HR4.out.ex hw6)
      have HR56 := Lib.hid (hR5.out.ex hw6)
      have HX6 := Lib.hid (HX5.out.trans hw6)
      clear HR4 hR5 HX5 hw6
      go_upto_region 12 with (go_at_call 32; (with_reducible refine (HSU.out _ _ _ HR46.out).mono ?_); rintro e w7 ⟨rfl, hw7⟩)
      have HX7 := Lib.hid (HX6.out.trans hw7)
      have hRa := HR46.out.ex hw7
      have hRb := HR56.out.ex hw7
      rcases hRa with h | ⟨ga, oa, rfl, hca⟩
      · have := congrArg List.length h
        rw [wts_length] at this
        simp at this
      rcases hRb with h | ⟨gb, ob, rfl, hcb2⟩
      · have := congrArg List.length h
        rw [wts_length] at this
        simp at this
      have HCA : Hid (∀ i, i < m + 1 → w7.cell? ⟨ga, oa + i, none⟩ = some (.int .i64 (wn m W i))) := Lib.hid fun i hi => by
        rw [hca i (by rw [wts_length]; exact hi), wts_nth W hi]
      have HCB : Hid (∀ i, i < m + 1 → w7.cell? ⟨gb, ob + i, none⟩ = some (.int .i64 (wn m (du m W) i))) := Lib.hid fun i hi => by
        rw [hcb2 i (by rw [wts_length]; exact hi), wts_nth _ hi]
      clear hca hcb2 HR46 HR56 HX6 hw7
      go_wp2
      go_loopg [83] (m + 1) (fun k v83 wr => ∃ j : Nat, j ≤ m + 1 ∧ v83 = .int .i64 (j : Int) ∧ Hid (k = m + 1 - j) ∧ Ex w7 wr)
      case atStart => exact ⟨0, by omega, rfl, Lib.hid rfl, Ex.refl _⟩
      case round =>
        obtain ⟨j, hj, rfl, hk, hx⟩ := hrel
        by_cases hjt : j < m + 1
        · have gj : decide ((j : Int) < (m : Int) + 1) = true := decide_eq_true (by omega)
          go_wp2
          go_loopg [15, 88] (m + 1) (fun k v15 v88 wr => ∃ (i : Nat) (X : Int), i ≤ m + 1 ∧ v15 = .int .i64 X ∧ v88 = .int .i64 (i : Int) ∧ Hid (X = xp m W j i) ∧ Hid (k = m + 1 - i) ∧ Ex w7 wr)
          case atStart => exact ⟨0, 0, by omega, rfl, rfl, Lib.hid rfl, Lib.hid rfl, hx⟩
          case round =>
            obtain ⟨i, X, hi, rfl, rfl, hX, hk2, hx2⟩ := hrel
            by_cases hit : i < m + 1
            · have gi : decide ((i : Int) < (m : Int) + 1) = true := decide_eq_true (by omega)
              go_wp2
              go_loopg [17, 93] (j + 1) (fun k v17 v93 wr => ∃ (s : Nat) (K : Int), s ≤ j + 1 ∧ v17 = .int .i64 K ∧ v93 = .int .i64 (s : Int) ∧ Hid (K = kp i (m - i) j s) ∧ Hid (k = j + 1 - s) ∧ Ex w7 wr)
              case atStart => exact ⟨0, 0, by omega, rfl, rfl, Lib.hid rfl, Lib.hid rfl, hx2⟩
              case round =>
                obtain ⟨s, K, hs, rfl, rfl, hK, hk3, hx3⟩ := hrel
                by_cases hst : s < j + 1
                · have b1 := kp_bound (i := i) (q := m - i) (by omega) (by omega) j s
                  have b2 := prod_small (i := i) (q := m - i) (by omega) (by omega) s (j - s)
                  have hstep := kp_step i (m - i) j s
                  rw [sgn_par] at hstep
                  rw [← hK.out] at b1 hstep
                  have b3 : -218103808 ≤ K ∧ K ≤ 218103808 := ⟨by omega, by omega⟩
                  have c1 := ch_small (n := i) (by omega) s
                  have c2 := ch_small (n := m - i) (by omega) (j - s)
                  obtain ⟨P, hP⟩ : ∃ P, ch i s = P := ⟨_, rfl⟩
                  obtain ⟨Q, hQ⟩ : ∃ Q, ch (m - i) (j - s) = Q := ⟨_, rfl⟩
                  rw [hP] at b2 hstep c1
                  rw [hQ] at b2 hstep c2
                  have HC1 := Lib.hid fun w2 => HCH.out w2 (i : Int) (s : Int) i s rfl rfl (by omega)
                  have HC2 := Lib.hid fun w2 => HCH.out w2 ((m : Int) - (i : Int)) ((j : Int) - (s : Int)) (m - i) (j - s) (by omega) (by omega) (by omega)
                  rw [hP] at HC1
                  rw [hQ] at HC2
                  have HST := Lib.hid hstep
                  clear b1 hstep hP hQ
                  by_cases hodd : s % 2 = 1
                  · have g1 : ((s : Int) % 2 == 1) = true := beq_iff_eq.mpr (by omega)
                    go_wp2_with (first
                      | (go_at_call 33; (with_reducible refine (HC1.out _).mono ?_); rintro e w8 ⟨rfl, hw8⟩
                         clear HC1)
                      | (go_at_call 33; (with_reducible refine (HC2.out _).mono ?_); rintro e w9 ⟨rfl, hw9⟩))
                    go_roundg (j + 1 - (s + 1))
                    case measure => have := hk3.out; omega
                    case rel => exact ⟨s + 1, K + -((P : Int) * (Q : Int)), by omega, by go_num, by go_num, Lib.hid (by rw [HST.out, if_pos hodd]; omega), Lib.hid rfl, (hx3.trans hw8).trans hw9⟩
                  · have g1 : ((s : Int) % 2 == 1) = false := beq_eq_false_iff_ne.mpr (by omega)
                    go_wp2_with (first
                      | (go_at_call 33; (with_reducible refine (HC1.out _).mono ?_); rintro e w8 ⟨rfl, hw8⟩
                         clear HC1)
                      | (go_at_call 33; (with_reducible refine (HC2.out _).mono ?_); rintro e w9 ⟨rfl, hw9⟩))
                    go_roundg (j + 1 - (s + 1))
                    case measure => have := hk3.out; omega
                    case rel => exact ⟨s + 1, K + (P : Int) * (Q : Int), by omega, by go_num, by go_num, Lib.hid (by rw [HST.out, if_neg hodd]; omega), Lib.hid rfl, (hx3.trans hw8).trans hw9⟩
                · have e : s = j + 1 := by omega
                  subst e
                  have q1 := hx3.cell (HCA.out i hit)
                  have b1 := HWB.out i
                  have b2 := kf_bound (i := i) (q := m - i) (by omega) (by omega) (j := j) (by omega)
                  have b3 := HXB.out j (by omega) i (by omega)
                  have hstep := xp_step m W j i
                  rw [← kp_all, ← hK.out] at b2 hstep
                  rw [← hX.out] at b3 hstep
                  obtain ⟨A, hA⟩ : ∃ A, wn m W i = A := ⟨_, rfl⟩
                  rw [hA] at q1 b1 hstep
                  have b4 := term_bound b1.1 b1.2 b2.1 b2.2
                  have b5 : -181462368256 ≤ X ∧ X ≤ 181462368256 := ⟨by omega, by omega⟩
                  have HST := Lib.hid hstep
                  clear b3 hstep hA
                  go_wp2
                  go_roundg (m + 1 - (i + 1))
                  case measure => have := hk2.out; omega
                  case rel => exact ⟨i + 1, X + A * K, by omega, by go_num, by go_num, Lib.hid HST.out.symm, Lib.hid rfl, hx3⟩
            · have e : i = m + 1 := by omega
              subst e
              have q1 := hx2.cell (HCB.out j hjt)
              have b1 := HUB.out j
              have hE := HXA.out j
              rw [← hX.out] at hE
              obtain ⟨U, hU⟩ : ∃ U, wn m (du m W) j = U := ⟨_, rfl⟩
              rw [hU] at q1 b1 hE
              have b2 : 0 ≤ (N : Int) * U ∧ (N : Int) * U ≤ 262144 := by
                have e1 : (N : Int) * U ≤ 64 * U := Int.mul_le_mul_of_nonneg_right (by omega) b1.1
                exact ⟨Int.mul_nonneg (by omega) b1.1, by omega⟩
              have g1 : ((N : Int) * U != X) = false := by rw [hE]; simp
              clear hU hE hX
              go_wp2
              go_roundg (m + 1 - (j + 1))
              case measure => have := hk.out; omega
              case rel => exact ⟨j + 1, by omega, by go_num, Lib.hid rfl, hx2⟩
        · have e : j = m + 1 := by omega
          subst e
          go_wp2
          go_ret
          exact ⟨rfl, HX7.out.trans hx⟩
    · have hdz : duE n z = 2 := by
        unfold duE at h1 ⊢
        rw [if_neg (by simpa using h0)] at h1 ⊢
        split at h1
        · rename_i h; rw [if_pos h]
        · exact absurd rfl h1
      have HDN := Lib.hid fun w2 (k : Ex w w2) => HD.no (ha.ex k) (wf_int hn) h1
      rw [hdz] at HDN
      obtain ⟨m, l, rfl, hm, hl, m1, m12, hlL, la6, hac, hcb, hlt, hz, hr⟩ := ln_in ha h0
      have HWT := Lib.hid fun w2 (k : Ex w w2) => HT.ok (M := m + 1) m1 m12 hlL la6 hac hcb hlt rfl (wts_length m _) (hr.ex k)
      clear ha hn HD HW HB HT h0 h1 hdz hm hl hlt hz hr hlL
      go_enter Try.func9, Try.ntmps9
      go_wp2_with (first
        | (go_at_call 12; (with_reducible refine (H1.out _).mono ?_); rintro e w0 ⟨a0, c0, rfl, hc0, hR0, hw0⟩
           clear H1)
        | (go_at_call 21; (with_reducible refine (H3.out _ _ _ hR0.out).mono ?_); rintro e w1 ⟨rfl, hw1⟩
           have hx1 := hw0.trans hw1)
        | (go_at_call 24; (with_reducible refine (HY.out _).mono ?_); rintro e w2 ⟨rfl, hw2⟩
           have hx2 := hx1.trans hw2)
        | (go_at_call 22; (with_reducible refine (HDN.out _ hx2).mono ?_); rintro e w3 ⟨a3, c3, rfl, hw3⟩
           have hx3 := hx2.trans hw3)
        | (go_at_call 12; (with_reducible refine (HWT.out _ hx3).mono ?_); rintro e w4 ⟨a4, c4, rfl, hc4, hR4, hw4⟩))
      go_ret
      exact ⟨rfl, hx3.trans hw4⟩
  · have he : duE n z = lnE n z := by unfold duE; rw [if_pos h0]
    have HDN := Lib.hid fun w2 (k : Ex w w2) => HD.no (ha.ex k) (wf_int hn) (by rw [he]; exact h0)
    rw [he] at HDN
    have HT1 := Lib.hid fun w2 (k : Ex w w2) => HT.no (ha.ex k) (wf_int hn) h0
    obtain ⟨t, ht⟩ : ∃ t, lnE n z = t := ⟨_, rfl⟩
    rw [ht] at HDN HT1 h0
    have q2 : (t != 0) = true := by simpa using h0
    clear ha hn HD HW HB HT he ht h0
    go_enter Try.func9, Try.ntmps9
    go_wp2_with (first
      | (go_at_call 12; (with_reducible refine (H1.out _).mono ?_); rintro e w0 ⟨a0, c0, rfl, hc0, hR0, hw0⟩
         clear H1)
      | (go_at_call 21; (with_reducible refine (H3.out _ _ _ hR0.out).mono ?_); rintro e w1 ⟨rfl, hw1⟩
         have hx1 := hw0.trans hw1)
      | (go_at_call 24; (with_reducible refine (HY.out _).mono ?_); rintro e w2 ⟨rfl, hw2⟩
         have hx2 := hx1.trans hw2)
      | (go_at_call 22; (with_reducible refine (HDN.out _ hx2).mono ?_); rintro e w3 ⟨a3, c3, rfl, hw3⟩
         have hx3 := hx2.trans hw3)
      | (go_at_call 12; (with_reducible refine (HT1.out _ hx3).mono ?_); rintro e w4 ⟨a4, c4, rfl, hw4⟩))
    go_ret
    exact ⟨rfl, hx3.trans hw4⟩

end Go.Proofs.Ytgmhbkfjabmkgaa
