/-
  The sort of the library at uint16: pdqsort, and Sort.
-/
import Derived.Test.YthlnbomapfjphaaDoorGs6
import Derived.Test.YthlnbomapfjphaaDoorGsc
import Derived.Deep.CutRange
import Derived.Deep.DeepCutAuto
namespace Go.Proofs.YthlnbomapfjphaaDoor
open Go.RowKit
open So

set_option maxRecDepth 100000 in
set_option maxHeartbeats 8000000 in
theorem so16_pdq (g N cap : Nat) (hN : N ≤ 250) (h1 : 1 ≤ N) : ∀ (n : Nat) (F : Nat → Int) (a b lim : Nat) (w : World), b - a < n → a ≤ b → b ≤ N → lim ≤ 100 → Pre a b F → RowN .u16 w g N F →
    Calls Tryd.prog 54 #[.slice (some ⟨g, 0, none⟩) N cap, .int .i64 (a : Int), .int .i64 (b : Int), .int .i64 (lim : Int)] w (so16_To a b g N F (Sd a b) w) := by
  intro n
  induction n with
  | zero => intro F a b lim w h; omega
  | succ n ih =>
  intro F a b lim w hn hab hb hlim hpre hF
  have HIH : Hid (∀ (F : Nat → Int) (a b lim : Nat) (w : World), b - a < n → a ≤ b → b ≤ N → lim ≤ 100 → Pre a b F → RowN .u16 w g N F → Calls Tryd.prog 54 #[.slice (some ⟨g, 0, none⟩) N cap, .int .i64 (a : Int), .int .i64 (b : Int), .int .i64 (lim : Int)] w (so16_To a b g N F (Sd a b) w)) := Lib.hid ih
  have HF := Lib.hid hF
  have HQ0 := Lib.hid (Qs.start hab hpre)
  clear hF ih hpre
  go_enter Tryd.func54, Tryd.ntmps54
  go_wp2
  go_loopg [1, 2, 3, 8, 9] (b - a + 1) (fun k v1 v2 v3 v8 v9 wr => ∃ (a' b' li : Nat) (H : Nat → Int), v1 = .int .i64 (a' : Int) ∧ v2 = .int .i64 (b' : Int) ∧ v3 = .int .i64 (li : Int) ∧ Hid (∃ t : Bool, v8 = .bool t) ∧ Hid (∃ t : Bool, v9 = .bool t) ∧ li ≤ 100 ∧ Hid (RowN .u16 wr g N H) ∧ Hid (Qs a b a' b' F H) ∧ Hid (k = b' - a' + 1) ∧ Hid (Mo1 g w wr))
  case atStart => exact ⟨a, b, lim, F, rfl, rfl, rfl, Lib.hid ⟨true, rfl⟩, Lib.hid ⟨true, rfl⟩, hlim, HF, HQ0, Lib.hid rfl, Lib.hid (Mo1.refl _ _)⟩
  case round =>
    obtain ⟨a', b', li, H, rfl, rfl, rfl, ht8, ht9, hli, hR, hQ, hk, hm⟩ := hrel
    obtain ⟨t8, rfl⟩ := ht8.out
    obtain ⟨t9, rfl⟩ := ht9.out
    clear HF HQ0 ht8 ht9
    have q1 := hQ.out.ga
    have q2 := hQ.out.ab
    have q3 := hQ.out.gb
    obtain ⟨l, hl⟩ : ∃ l, b' - a' = l := ⟨_, rfl⟩
    have hlz : (b' : Int) - (a' : Int) = (l : Int) := by omega
    by_cases h12 : l ≤ 12
    · have HIN := Lib.hid (so16_insertion H g N cap a' b' wr (by omega) q2 (by omega) hR.out)
      go_wp2_with (go_at_call 68; (with_reducible refine (HIN.out).mono ?_); rintro e w2 ⟨rfl, hq2, hm2⟩)
      have HFIN : Hid (∃ K, RowN .u16 w2 g N K ∧ Pm a b F K ∧ Sd a b K) := Lib.hid (by
        obtain ⟨K, k1, k2, k3⟩ := hq2.out
        have := hQ.out.pms k2
        exact ⟨K, k1, this.pm, this.done k3⟩)
      have HMF := Lib.hid (hm.out.trans hm2.out)
      go_end0
      exact ⟨rfl, HFIN, HMF⟩
    by_cases hl0 : li = 0
    · subst hl0
      have HHP := Lib.hid (so16_heap H g N cap a' b' wr (by omega) (by omega) (by omega) hR.out)
      go_wp2_with (go_at_call 69; (with_reducible refine (HHP.out).mono ?_); rintro e w2 ⟨rfl, hq2, hm2⟩)
      have HFIN : Hid (∃ K, RowN .u16 w2 g N K ∧ Pm a b F K ∧ Sd a b K) := Lib.hid (by
        obtain ⟨K, k1, k2, k3⟩ := hq2.out
        have := hQ.out.pms k2
        exact ⟨K, k1, this.pm, this.done k3⟩)
      have HMF := Lib.hid (hm.out.trans hm2.out)
      go_end0
      exact ⟨rfl, HFIN, HMF⟩
    have zl0 : ((li : Int) == 0) = false := by simp; omega
    go_upto_if 35 with fail
    go_cut [3] (fun v3 wx => ∃ (li2 : Nat) (H2 : Nat → Int), v3 = .int .i64 (li2 : Int) ∧ li2 ≤ 100 ∧ Hid (RowN .u16 wx g N H2) ∧ Hid (Qs a b a' b' F H2) ∧ Hid (Mo1 g w wx))
    case first =>
      cases t8 with
      | true =>
        go_wp2
        go_meet
        exact ⟨li, H, rfl, hli, hR, hQ, hm⟩
      | false =>
        have HBR := Lib.hid (so16_break H g N cap a' b' wr (by omega) (by omega) (by omega) hR.out)
        obtain ⟨li2, rfl⟩ : ∃ m, li = m + 1 := ⟨li - 1, by omega⟩
        go_wp2_with (go_at_call 70; (with_reducible refine (HBR.out).mono ?_); rintro e w2 ⟨rfl, hq2, hm2⟩)
        obtain ⟨K, k1, k2, _⟩ := hq2.out
        have K1 := Lib.hid k1
        have K2 := Lib.hid (hQ.out.pms k2)
        have KM := Lib.hid (hm.out.trans hm2.out)
        go_meet
        exact ⟨li2, K, by first | rfl | go_num, by omega, K1, K2, KM⟩
    case rest =>
    obtain ⟨li2, H2, rfl, hli2, hR2, hQ2, hm2⟩ := hcut
    rename World => w2
    clear hR hQ hm zl0
    have HPV := Lib.hid (so16_pivot H2 g N cap a' b' w2 (by omega) (by omega) (by omega) hR2.out)
    go_upto_if 50 with (go_at_call 71; (with_reducible refine (HPV.out).mono ?_); rintro e w3 ⟨pv, hint, rfl, hp1, hp2, hh, hw3⟩)
    have hR3 := Lib.hid (hR2.out.ex (by omega) hw3)
    have hm3 := Lib.hid (hm2.out.trans (Mo1.of hw3))
    clear HPV hR2 hm2
    go_cut [11, 12] (fun v11 v12 wx => ∃ (p2 : Nat) (h2 : Int) (H3 : Nat → Int), v11 = .int .i64 (p2 : Int) ∧ v12 = .int .i64 h2 ∧ a' ≤ p2 ∧ p2 < b' ∧ Hid (RowN .u16 wx g N H3) ∧ Hid (Qs a b a' b' F H3) ∧ Hid (Mo1 g w wx))
    case first =>
      by_cases hd : hint = 2
      · subst hd
        have HRV := Lib.hid (so16_reverse H2 g N cap a' b' w3 (by omega) (by omega) (by omega) hR3.out)
        obtain ⟨p2, hp3⟩ : ∃ p2, b' - 1 - (pv - a') = p2 := ⟨_, rfl⟩
        have hpz : (b' : Int) - 1 - ((pv : Int) - (a' : Int)) = (p2 : Int) := by omega
        go_wp2_with (go_at_call 72; (with_reducible refine (HRV.out).mono ?_); rintro e w4 ⟨rfl, hq4, hm4⟩)
        obtain ⟨K, k1, k2, _⟩ := hq4.out
        have K1 := Lib.hid k1
        have K2 := Lib.hid (hQ2.out.pms k2)
        have KM := Lib.hid (hm3.out.trans hm4.out)
        go_meet
        exact ⟨p2, 1, K, by first | rfl | go_num, rfl, by omega, by omega, K1, K2, KM⟩
      · have hdz : (hint == 2) = false := by simpa using hd
        go_wp2
        go_meet
        exact ⟨pv, hint, H2, rfl, rfl, hp1, hp2, hR3, hQ2, hm3⟩
    case rest =>
    obtain ⟨p2, h2, H3, rfl, rfl, hp3, hp4, hR4, hQ4, hm4⟩ := hcut
    rename World => w4
    clear hR3 hQ2 hm3 hh hp1 hp2
    go_upto_region 15 with fail
    go_cut [68] (fun v68 wx => Hid (∃ t : Bool, v68 = .bool t) ∧ w4 = wx)
    case first =>
      cases t8 <;> cases t9 <;> by_cases hh1 : h2 = 1
      all_goals first
        | (have hh2 : (h2 == 1) = true := by simpa using hh1
           go_wp2
           go_meet
           exact ⟨Lib.hid ⟨_, rfl⟩, rfl⟩)
        | (have hh2 : (h2 == 1) = false := by simpa using hh1
           go_wp2
           go_meet
           exact ⟨Lib.hid ⟨_, rfl⟩, rfl⟩)
    case rest =>
    obtain ⟨ht68, rfl⟩ := hcut
    obtain ⟨t68, rfl⟩ := ht68.out
    clear ht68
    go_upto_if 68 with fail
    go_cut [] (fun wx => ∃ (H4 : Nat → Int), Hid (RowN .u16 wx g N H4) ∧ Hid (Qs a b a' b' F H4) ∧ Hid (Mo1 g w wx))
    case first =>
      cases t68 with
      | false =>
        go_wp2
        go_meet
        exact ⟨H3, hR4, hQ4, hm4⟩
      | true =>
        have HPI := Lib.hid (so16_partial H3 g N cap a' b' w4 (by omega) (by omega) (by omega) hQ4.out.here hR4.out)
        go_wp2_with (go_at_call 73; (with_reducible refine (HPI.out).mono ?_); rintro e w5 ⟨t, rfl, hq5, hm5⟩; cases t)
        · obtain ⟨K, k1, k2, _⟩ := hq5.out
          have K1 := Lib.hid k1
          have K2 := Lib.hid (hQ4.out.pms k2)
          have KM := Lib.hid (hm4.out.trans hm5.out)
          go_wp2
          go_meet
          exact ⟨K, K1, K2, KM⟩
        · have HFIN : Hid (∃ K, RowN .u16 w5 g N K ∧ Pm a b F K ∧ Sd a b K) := Lib.hid (by
            obtain ⟨K, k1, k2, k3⟩ := hq5.out
            have := hQ4.out.pms k2
            exact ⟨K, k1, this.pm, this.done (by first | exact k3 rfl | exact k3 True.intro)⟩)
          have HMF := Lib.hid (hm4.out.trans hm5.out)
          go_wp2
          go_end0
          exact ⟨rfl, HFIN, HMF⟩
    case rest =>
    obtain ⟨H4, hR5, hQ5, hm5⟩ := hcut
    rename World => w5
    clear hR4 hQ4 hm4
    obtain ⟨x, hx⟩ : ∃ x, H4 p2 = x := ⟨_, rfl⟩
    have k2 := so_cell (show w5.cell? ⟨g, p2, none⟩ = some (.int .u16 x) by rw [← hx]; exact hR5.out.1 p2 (by omega))
    have HX := Lib.hid hx
    clear hx
    go_upto_region 17 with fail
    go_cut [87] (fun v87 wx => ∃ t : Bool, Hid (v87 = .bool t) ∧ Hid (t = true → 0 < a' ∧ ¬ H4 (a' - 1) < H4 p2) ∧ Ex w5 wx)
    case first =>
      by_cases ha0 : a' = 0
      · have z1 : decide ((0 : Int) < (a' : Int)) = false := decide_eq_false (by omega)
        have z2 : decide (0 < a') = false := decide_eq_false (by omega)
        clear ha0
        go_wp2
        refine wp_region_wo (by kernel_rfl) (by kernel_rfl) ?_
        repeat (go_big_quiet_step (fail))
        refine wpQuiet_nil ?_
        rintro _ ⟨⟨w6, hw6⟩, rfl⟩
        go_wp2
        go_meet
        exact ⟨false, Lib.hid rfl, Lib.hid (fun h => by cases h), hw6⟩
      · obtain ⟨m, hm⟩ : ∃ m, a' - 1 = m := ⟨_, rfl⟩
        have z1 : decide ((0 : Int) < (a' : Int)) = true := decide_eq_true (by omega)
        have z2 : decide (0 < a') = true := decide_eq_true (by omega)
        have z3 : 0 < a' := by omega
        have hmz : (a' : Int) - 1 = (m : Int) := by omega
        obtain ⟨y, hy⟩ : ∃ y, H4 m = y := ⟨_, rfl⟩
        have k1 := so_cell (show w5.cell? ⟨g, m, none⟩ = some (.int .u16 y) by rw [← hy]; exact hR5.out.1 m (by omega))
        have HLL := Lib.hid fun w => so16_less y x w
        have HY := Lib.hid hy
        have HMM := Lib.hid hm
        by_cases hxy : y < x
        · rw [decide_eq_true hxy] at HLL
          clear hy
          go_wp2
          refine wp_region_wo (by kernel_rfl) (by kernel_rfl) ?_
          repeat (go_big_quiet_step ((go_at_call 74; exact says_wo (HLL.out _))))
          refine wpQuiet_nil ?_
          rintro _ ⟨⟨w6, hw6⟩, rfl⟩
          clear k1
          go_wp2
          go_meet
          exact ⟨false, Lib.hid rfl, Lib.hid (fun h => by cases h), hw6⟩
        · rw [decide_eq_false hxy] at HLL
          have HT : Hid (H4 p2 ≤ H4 (a' - 1)) := Lib.hid (by rw [hm, HY.out, HX.out]; omega)
          clear hy
          go_wp2
          refine wp_region_wo (by kernel_rfl) (by kernel_rfl) ?_
          repeat (go_big_quiet_step ((go_at_call 74; exact says_wo (HLL.out _))))
          refine wpQuiet_nil ?_
          rintro _ ⟨⟨w6, hw6⟩, rfl⟩
          clear k1
          go_wp2
          go_meet
          exact ⟨true, Lib.hid rfl, Lib.hid (fun _ => ⟨z3, by have := HT.out; omega⟩), hw6⟩
    case rest =>
    obtain ⟨t87, ht87, hT87, hw6⟩ := hcut
    obtain rfl := ht87.out
    rename World => w6
    have hR6 := Lib.hid (hR5.out.ex (by omega) hw6)
    have hm6 := Lib.hid (hm5.out.trans (Mo1.of hw6))
    clear hR5 hm5 ht87 k2 HX
    cases t87 with
    | true =>
      obtain ⟨hT1, hT2⟩ := hT87.out rfl
      have HPE := Lib.hid (so16_partEqual H4 g N cap a' b' p2 w6 (by omega) (by omega) (by omega) (by omega) hR6.out)
      have HLB : Hid (∀ i, a' ≤ i → i < b' → H4 p2 ≤ H4 i) := Lib.hid fun i i1 i2 => by
        rcases hQ5.out.here with h | h
        · omega
        · have := h i i1 i2
          omega
      clear hT1 hT2
      go_wp2_with (go_at_call 75; (with_reducible refine (HPE.out).mono ?_); rintro e w7 ⟨m, rfl, hm1, hm2, hq7, hm7⟩)
      obtain ⟨K, k1, k2, k3, k4⟩ := hq7.out
      have K1 := Lib.hid k1
      have K2 := Lib.hid ((hQ5.out.pms k2).eqs (p := H4 p2) (by omega) hm2 (k2.all (p := fun x => H4 p2 ≤ x) HLB.out) k3 k4)
      have KM := Lib.hid (hm6.out.trans hm7.out)
      clear hq7 k1 k2 k3 k4
      go_roundg (b' - m + 1)
      case measure => have := hk.out; omega
      case rel => exact ⟨m, b', li2, K, rfl, rfl, rfl, Lib.hid ⟨_, rfl⟩, Lib.hid ⟨_, rfl⟩, hli2, K1, K2, Lib.hid rfl, KM⟩
    | false =>
      have HPA := Lib.hid (so16_part H4 g N cap a' b' p2 w6 (by omega) (by omega) (by omega) (by omega) hR6.out)
      clear hT87
      go_upto_region 21 with (go_at_call 76; (with_reducible refine (HPA.out).mono ?_); rintro e w7 ⟨m, tp, rfl, hm1, hm2, hq7, hm7⟩)
      obtain ⟨K, k1, k2, k3, k4⟩ := hq7.out
      have K1 := Lib.hid k1
      have K2 := Lib.hid (hQ5.out.pms k2)
      have K3 := Lib.hid k3
      have K4 := Lib.hid k4
      have KM := Lib.hid (hm6.out.trans hm7.out)
      clear hq7 k1 k2 k3 k4 hR6 hQ5 hm6 hm7 HPA
      obtain ⟨ll, hll⟩ : ∃ ll, m - a' = ll := ⟨_, rfl⟩
      obtain ⟨rl, hrl⟩ : ∃ rl, b' - m = rl := ⟨_, rfl⟩
      have hllz : (m : Int) - (a' : Int) = (ll : Int) := by omega
      have hrlz : (b' : Int) - (m : Int) = (rl : Int) := by omega
      by_cases hlr : ll < rl
      · have zlr : decide ((ll : Int) < (rl : Int)) = true := decide_eq_true (by omega)
        have HRC : Hid (Calls Tryd.prog 54 #[.slice (some ⟨g, 0, none⟩) N cap, .int .i64 (a' : Int), .int .i64 (m : Int), .int .i64 (li2 : Int)] w7 (fun e w8 => e = .returned (.tuple #[]) ∧ Hid (∃ L, RowN .u16 w8 g N L ∧ Qs a b (m + 1) b' F L) ∧ Hid (Mo1 g w w8))) := Lib.hid (by
          refine (HIH.out K a' m li2 w7 (by omega) hm1 (by omega) hli2 (K2.out.preL (by omega)) K1.out).mono ?_
          rintro e w8 ⟨rfl, hq, hm8⟩
          obtain ⟨L, l1, l2, l3⟩ := hq.out
          exact ⟨rfl, Lib.hid ⟨L, l1, K2.out.goL hm1 hm2 K3.out K4.out l2 l3⟩, Lib.hid (KM.out.trans hm8.out)⟩)
        go_wp2_with (go_at_call 54; (with_reducible refine (HRC.out).mono ?_); rintro e w8 ⟨rfl, hq8, hm8⟩)
        obtain ⟨L, l1, l2⟩ := hq8.out
        have L1 := Lib.hid l1
        have L2 := Lib.hid l2
        clear hq8 l1 l2
        go_roundg (b' - (m + 1) + 1)
        case measure => have := hk.out; omega
        case rel => exact ⟨m + 1, b', li2, L, by go_num, rfl, rfl, Lib.hid ⟨_, rfl⟩, Lib.hid ⟨_, rfl⟩, hli2, L1, L2, Lib.hid rfl, hm8⟩
      · have zlr : decide ((ll : Int) < (rl : Int)) = false := decide_eq_false (by omega)
        obtain ⟨m1, hm1e⟩ : ∃ m1, m + 1 = m1 := ⟨_, rfl⟩
        have hm1z : (m : Int) + 1 = (m1 : Int) := by omega
        have HRC : Hid (Calls Tryd.prog 54 #[.slice (some ⟨g, 0, none⟩) N cap, .int .i64 (m1 : Int), .int .i64 (b' : Int), .int .i64 (li2 : Int)] w7 (fun e w8 => e = .returned (.tuple #[]) ∧ Hid (∃ L, RowN .u16 w8 g N L ∧ Qs a b a' m F L) ∧ Hid (Mo1 g w w8))) := Lib.hid (by
          refine (HIH.out K m1 b' li2 w7 (by omega) (by omega) (by omega) hli2 (by rw [← hm1e]; exact pre_above K4.out) K1.out).mono ?_
          rintro e w8 ⟨rfl, hq, hm8⟩
          obtain ⟨L, l1, l2, l3⟩ := hq.out
          rw [← hm1e] at l2 l3
          exact ⟨rfl, Lib.hid ⟨L, l1, K2.out.goR hm1 hm2 K3.out K4.out l2 l3⟩, Lib.hid (KM.out.trans hm8.out)⟩)
        go_wp2_with (go_at_call 54; (with_reducible refine (HRC.out).mono ?_); rintro e w8 ⟨rfl, hq8, hm8⟩)
        obtain ⟨L, l1, l2⟩ := hq8.out
        have L1 := Lib.hid l1
        have L2 := Lib.hid l2
        clear hq8 l1 l2
        go_roundg (m - a' + 1)
        case measure => have := hk.out; omega
        case rel => exact ⟨a', m, li2, L, rfl, rfl, rfl, Lib.hid ⟨_, rfl⟩, Lib.hid ⟨_, rfl⟩, hli2, L1, L2, Lib.hid rfl, hm8⟩

set_option maxHeartbeats 1000000 in
theorem so16_sort (F : Nat → Int) (g N cap : Nat) (w : World) (hN : N ≤ 250) (hN1 : 1 ≤ N) (hF : RowN .u16 w g N F) :
    Calls Tryd.prog 40 #[.slice (some ⟨g, 0, none⟩) N cap] w (so16_To 0 N g N F (Sd 0 N) w) := by
  have HL := Lib.hid fun w => len_any N w (by omega)
  have hL8 := (lenB_of N (by omega)).2.2
  generalize Lib.bitLen N = L at HL hL8
  have HP := Lib.hid fun w2 (h : RowN .u16 w2 g N F) => so16_pdq g N cap hN hN1 (N + 1) F 0 N L w2 (by omega) (Nat.zero_le _) (Nat.le_refl _) (by omega) (.inl rfl) h
  have HF := Lib.hid hF
  clear hF
  go_enter Tryd.func40, Tryd.ntmps40
  go_wp2_with (first
    | (go_at_call 55; (with_reducible refine (HL.out _).mono ?_); rintro e w2 ⟨rfl, hw2⟩; have HF2 := HF.out.ex hN1 hw2)
    | (go_at_call 54; refine (HP.out _ HF2).mono ?_; rintro e w3 ⟨rfl, hq3, hm3⟩))
  have HMF := Lib.hid ((Mo1.of (g := g) hw2).trans hm3.out)
  go_end0
  exact ⟨rfl, hq3, HMF⟩

end Go.Proofs.YthlnbomapfjphaaDoor
