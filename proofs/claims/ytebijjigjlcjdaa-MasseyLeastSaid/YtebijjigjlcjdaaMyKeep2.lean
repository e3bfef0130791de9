/-
  MasseyMakes, MasseyGrows, by contracts.
-/
import Derived.Test.YtebijjigjlcjdaaMyKeep
import Derived.Test.YtebijjigjlcjdaaMyStep
namespace Go.Proofs.Ytebijjigjlcjdaa
open Go.RowKit
open My

set_option maxRecDepth 100000 in
set_option maxHeartbeats 2000000 in
theorem masseyMakes_of (HR : MyRuleC) (HN : MyNextC) (a : Option Addr) (la ca : Nat) (z : List Int) (w : World) (ha : IsInts .u8 1 w a la ca z) :
    Calls Try.prog 4 #[.slice a la ca] w (Says (.bool true) w) := by
  have HY := Lib.hid fun w => masseys_yes HR HN w
  obtain ⟨N, hN⟩ : ∃ N, N = min la 60 := ⟨_, rfl⟩
  have HTA := Lib.hid fun w2 (k : Ex w w2) => tape_any z a la ca N w2 (ha.ex k) hN
  have hN60 : N ≤ 60 := by omega
  have HRU : Hid (∀ a c w, N ≤ c → c ≤ 9223372036854775807 → ReadsB w a N (tb z) → Calls Try.prog 8 #[.slice a N c] w (RuleOf (tb z) N w)) := Lib.hid fun a c w h1 h2 h3 => HR.ok hN60 h1 h2 h3
  have HNX : Hid (∀ a c i b cb M R w, i ≤ 60 → i ≤ c → c ≤ 9223372036854775807 → M ≤ i → M ≤ cb → cb ≤ 9223372036854775807 → ReadsB w a i (tb z) → ReadsB w b M R → Calls Try.prog 7 #[.slice a i c, .slice b M cb] w (Says (.tuple #[.int .u8 (bw (nx (tb z) R M i)), .int .i64 0]) w)) := Lib.hid fun a c i b cb M R w h1 h2 h3 h4 h5 h6 h7 h8 => HN.ok h1 h2 h3 h4 h5 h6 h7 h8
  obtain ⟨B, hB⟩ : ∃ B, tb z = B := ⟨_, rfl⟩
  rw [hB] at HRU HNX HTA
  clear HR HN ha hN hB
  go_enter Try.func4, Try.ntmps4
  go_upto_region 4 with (first
    | (go_at_call 14; (with_reducible refine (HY.out _).mono ?_); rintro e w1 ⟨rfl, hw1⟩)
    | (go_at_call 15; (with_reducible refine (HTA.out _ hw1).mono ?_); rintro e w2 ⟨v, rfl, hrow, hw2⟩))
  obtain ⟨a2, c2, rfl, hc2, hrd⟩ := hrow.out.hands (fl_length N _)
  have HRB := Lib.hid (ReadsB.fl hrd.out)
  have hx2 := hw1.trans hw2
  clear hrow hrd
  go_upto_region 5 with (go_at_call 8; (with_reducible refine (HRU.out _ _ _ hc2.out.1 hc2.out.2 HRB.out).mono ?_); rintro e w3 ⟨M, R, a3, c3, rfl, hc3, hR3, hG3, hm3, hw3⟩)
  have hMN : M ≤ N := hm3.out N (fun _ => false) (Gen.full _ _ _)
  have HX3 := Lib.hid (hx2.trans hw3)
  have HB3 := Lib.hid (HRB.out.ex hw3)
  obtain ⟨hc2a, hc2b⟩ := hc2.out
  have g1 : decide ((N : Int) < (M : Int)) = false := decide_eq_false (by omega)
  have g1' : decide (N < M) = false := decide_eq_false (by omega)
  clear hw1 hw2 hw3 hx2 HRB HRU HTA HY hm3
  go_wp2
  go_loopg [5] (N - M) (fun k v5 wr => ∃ i : Nat, M ≤ i ∧ i ≤ N ∧ v5 = .int .i64 (i : Int) ∧ Hid (k = N - i) ∧ Ex w3 wr)
  case atStart => exact ⟨M, Nat.le_refl _, hMN, rfl, Lib.hid rfl, Ex.refl _⟩
  case round =>
    obtain ⟨i, hMi, hiN, rfl, hk, hx⟩ := hrel
    by_cases hlt : i < N
    · rcases HB3.out with h0 | ⟨g, o, rfl, hcell⟩
      · exact absurd hlt (by omega)
      have hn := hG3.out i hMi hlt
      have HRi := Lib.hid ((ReadsB.less (HB3.out) (show i ≤ N by omega)).ex hx)
      have HRr := Lib.hid (hR3.out.ex hx)
      have HNXi := Lib.hid (HNX.out (some ⟨g, o, none⟩) c2 i a3 c3 M R wr (by omega) (by omega) hc2b hMi hc3.out.1 hc3.out.2 HRi.out HRr.out)
      rw [← hn] at HNXi
      have HC := Lib.hid (hx.cell (hcell i hlt))
      obtain ⟨u, hu⟩ : ∃ u, bw (B i) = u := ⟨_, rfl⟩
      rw [hu] at HNXi HC
      clear hn hcell hu HRi HRr
      go_wp2_with (go_at_call 7; (with_reducible refine (HNXi.out).mono ?_); rintro e w4 ⟨rfl, hw4⟩
                   have q4 := hw4.cell HC.out)
      go_roundg (N - (i + 1))
      case measure => have := hk.out; omega
      case rel => exact ⟨i + 1, by omega, by omega, by go_num, Lib.hid rfl, hx.trans hw4⟩
    · have e : N = i := by omega
      have g0 : decide ((i : Int) < (N : Int)) = false := decide_eq_false (by omega)
      go_wp2
      go_ret
      exact ⟨rfl, HX3.out.trans hx⟩

set_option maxRecDepth 100000 in
set_option maxHeartbeats 2000000 in
theorem masseyGrows_of (HR : MyRuleC) (HN : MyNextC) (a : Option Addr) (la ca : Nat) (z : List Int) (n : Int) (w : World) (ha : IsInts .u8 1 w a la ca z) (_ : I64 n) :
    Calls Try.prog 6 #[.slice a la ca, .int .i64 n] w (Says (.bool true) w) := by
  have HY := Lib.hid fun w => masseys_yes HR HN w
  obtain ⟨N, hN⟩ : ∃ N, N = min la 60 := ⟨_, rfl⟩
  have HTA := Lib.hid fun w2 (k : Ex w w2) => tape_any z a la ca N w2 (ha.ex k) hN
  have hN60 : N ≤ 60 := by omega
  have HRU : Hid (∀ a c i w, i ≤ 60 → i ≤ c → c ≤ 9223372036854775807 → ReadsB w a i (tb z) → Calls Try.prog 8 #[.slice a i c] w (RuleOf (tb z) i w)) := Lib.hid fun a c i w h0 h1 h2 h3 => HR.ok h0 h1 h2 h3
  obtain ⟨B, hB⟩ : ∃ B, tb z = B := ⟨_, rfl⟩
  rw [hB] at HRU HTA
  clear HR HN ha hN hB
  by_cases h0 : N = 0
  · subst h0
    go_enter Try.func6, Try.ntmps6
    go_upto_region 4 with (first
      | (go_at_call 14; (with_reducible refine (HY.out _).mono ?_); rintro e w1 ⟨rfl, hw1⟩)
      | (go_at_call 15; (with_reducible refine (HTA.out _ hw1).mono ?_); rintro e w2 ⟨v, rfl, hrow, hw2⟩))
    obtain ⟨a2, c2, rfl, hc2, hrd⟩ := hrow.out.hands (fl_length 0 _)
    go_wp2
    go_ret
    exact ⟨rfl, hw1.trans hw2⟩
  · have HWI := Lib.hid fun w => within_any n (N : Int) w (by omega) (by omega)
    have m0 := Int.emod_nonneg n (b := (N : Int)) (by omega)
    have m1 := Int.emod_lt_of_pos n (b := (N : Int)) (by omega)
    obtain ⟨i, hi⟩ : ∃ i : Nat, n % (N : Int) = (i : Int) := ⟨(n % (N : Int)).toNat, by omega⟩
    rw [hi] at HWI m0 m1
    have hiN : i < N := by omega
    have HGZ := Lib.hid (good_zeros 2 (by omega) #[.int .i64 0, .int .i64 0] rfl 23)
    have gN : ((N : Int) == 0) = false := beq_eq_false_iff_ne.mpr (by omega)
    clear hi
    go_enter Try.func6, Try.ntmps6
    go_upto_region 4 with (first
      | (go_at_call 14; (with_reducible refine (HY.out _).mono ?_); rintro e w1 ⟨rfl, hw1⟩)
      | (go_at_call 15; (with_reducible refine (HTA.out _ hw1).mono ?_); rintro e w2 ⟨v, rfl, hrow, hw2⟩))
    obtain ⟨a2, c2, rfl, hc2, hrd⟩ := hrow.out.hands (fl_length N _)
    have HRB := Lib.hid (ReadsB.fl hrd.out)
    have HX2 := Lib.hid (hw1.trans hw2)
    obtain ⟨hc2a, hc2b⟩ := hc2.out
    rcases HRB.out with h | ⟨g, o, rfl, hcell⟩
    · exact absurd h h0
    clear hrow hrd hw1 hw2 hcell
    have HR1 := Lib.hid (ReadsB.less HRB.out (show i ≤ N by omega))
    have HR2 := Lib.hid (ReadsB.less HRB.out (show i + 1 ≤ N by omega))
    have HU2 : Hid (∀ w, ReadsB w (some ⟨g, o, none⟩) (i + 1) B → Calls Try.prog 8 #[.slice (some ⟨g, o, none⟩) (i + 1) c2] w (RuleOf B (i + 1) w)) := Lib.hid fun w h => HRU.out _ _ _ _ (by omega) (by omega) hc2b h
    go_upto_region 8 with (first
      | (go_at_call 16; (with_reducible refine (HWI.out _).mono ?_); rintro e w3 ⟨rfl, rfl⟩)
      | (go_at_call 8; (with_reducible refine (HRU.out _ _ _ _ (by omega) (by omega) hc2b HR1.out).mono ?_); rintro e w3 ⟨L, R, a3, c3, rfl, hc3, hR3, hG3, hm3, hw3⟩))
    have HR4 := Lib.hid (HR2.out.ex hw3)
    go_upto_region 9 with (go_at_call 8; (with_reducible refine (HU2.out _ HR4.out).mono ?_); rintro e w4 ⟨M, R4, a4, c4, rfl, hc4, hR4, hG4, hm4, hw4⟩)
    have hlg := least_grows (s := B) (n := i) (L := L) (M := M) ⟨⟨_, hG3.out⟩, hm3.out⟩ ⟨⟨_, hG4.out⟩, hm4.out⟩
    have hL : L ≤ i := hm3.out i (fun _ => false) (Gen.full _ _ _)
    have HX4 := Lib.hid ((HX2.out.trans hw3).trans hw4)
    clear HY HTA HRU HU2 HR1 HR2 HR4 HRB hR3 hR4 hG3 hG4 hm3 hm4 hw3 hw4
    rcases hlg with e | ⟨e1, e2⟩
    · subst e
      go_wp2_with (go_at_call 18; (refine (HGZ.out _).mono ?_); rintro e w6 ⟨rfl, hw6⟩)
      go_ret
      exact ⟨rfl, HX4.out.trans hw6⟩
    · have g1 : ((M : Int) == (L : Int)) = false := beq_eq_false_iff_ne.mpr (by omega)
      have g2 : ((M : Int) == (i : Int) + 1 - (L : Int)) = true := beq_iff_eq.mpr (by omega)
      have g3 : decide ((L : Int) < (M : Int)) = true := decide_eq_true (by omega)
      clear e1
      go_wp2_with (go_at_call 18; (refine (HGZ.out _).mono ?_); rintro e w6 ⟨rfl, hw6⟩)
      go_ret
      exact ⟨by simp, HX4.out.trans hw6⟩

end Go.Proofs.Ytebijjigjlcjdaa
