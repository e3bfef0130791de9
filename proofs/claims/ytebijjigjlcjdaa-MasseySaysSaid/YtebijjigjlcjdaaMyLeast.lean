/-
  MasseyLeast, by contracts.
-/
import Derived.Test.YtebijjigjlcjdaaMyKeep
import Derived.Test.YtebijjigjlcjdaaGro
import Derived.Deep.CutRange
import Derived.Deep.DeepCutAuto
namespace Go.Proofs.Ytebijjigjlcjdaa
open Go.RowKit
open My

/-- A row of one's own, cut shorter; nil or not. -/
theorem Row.upto {e : TypeId} {k : IntKind} {w : World} {base n c m : Nat} {a : Option Addr} {xs : List Int} (h : Row e k w base (.slice a n c) xs) (hn : n = xs.length) (hm : m ≤ n) : Row e k w base (.slice a m c) (xs.take m) := by
  rcases h.form with ⟨h1, h2⟩ | ⟨g, cap, h1, _⟩
  · simp only [Value.slice.injEq] at h1
    obtain ⟨rfl, rfl, rfl⟩ := h1
    have : m = 0 := by omega
    subst this
    exact Row.nil _ _ _ _
  · simp only [Value.slice.injEq] at h1
    obtain ⟨rfl, _, _⟩ := h1
    exact h.cut hn hm
theorem fl_take {n m : Nat} (F : Nat → Int) (h : m ≤ n) : (fl n F).take m = fl m F := by
  unfold fl
  rw [← List.map_take, List.take_range]
  congr 2
  omega
namespace My
/-- One bit more. -/
def upB (F : Nat → Bool) (i : Nat) (x : Bool) (t : Nat) : Bool := if t = i then x else F t
theorem upB_at (F : Nat → Bool) (i : Nat) (x : Bool) : upB F i x i = x := if_pos rfl
theorem upB_ne {F : Nat → Bool} {i t : Nat} {x : Bool} (h : t ≠ i) : upB F i x t = F t := if_neg h
theorem fl_upB (F : Nat → Bool) (i : Nat) (x : Bool) : (Go.Proofs.Ytebijjigjlcjdaa.fl i fun t => bw (F t)) ++ [bw x] = Go.Proofs.Ytebijjigjlcjdaa.fl (i + 1) fun t => bw (upB F i x t) := by
  have h1 : (Go.Proofs.Ytebijjigjlcjdaa.fl i fun t => bw (F t)) = Go.Proofs.Ytebijjigjlcjdaa.fl i fun t => bw (upB F i x t) := fl_congr fun t ht => by rw [upB_ne (show t ≠ i by omega)]
  rw [h1, ← fl_more i fun t => bw (upB F i x t), upB_at]
theorem Gen.more {F R : Nat → Bool} {K n : Nat} (h : Gen F R K n) {x : Bool} (hx : K ≤ n → x = nx F R K n) : Gen (upB F n x) R K (n + 1) := by
  have hc : ∀ k, k < n → F k = upB F n x k := fun k hk => (upB_ne (by omega)).symm
  refine (Gen.congr hc (fun _ _ => rfl) h).next fun hK => ?_
  rw [upB_at]
  exact (hx hK).trans (nx_congr hK (Nat.le_refl _) hc fun _ _ => rfl)
end My

set_option maxRecDepth 100000 in
set_option maxHeartbeats 4000000 in
theorem masseyLeast_of (HR : MyRuleC) (HN : MyNextC) (a : Option Addr) (la ca : Nat) (z : List Int) (b : Option Addr) (lb cb : Nat) (y : List Int) (n : Int) (w : World) (ha : IsInts .u8 1 w a la ca z) (hb : IsInts .u8 1 w b lb cb y) (_ : I64 n) :
    Calls Try.prog 5 #[.slice a la ca, .slice b lb cb, .int .i64 n] w (Says (.bool true) w) := by
  have HY := Lib.hid fun w => masseys_yes HR HN w
  obtain ⟨N1, hN1⟩ : ∃ N, N = min la 60 := ⟨_, rfl⟩
  obtain ⟨N2, hN2⟩ : ∃ N, N = min lb 60 := ⟨_, rfl⟩
  obtain ⟨K, hK⟩ : ∃ K, K = min N2 28 := ⟨_, rfl⟩
  have HT1 := Lib.hid fun w2 (k : Ex w w2) => tape_any z a la ca N1 w2 (ha.ex k) hN1
  have HT2 := Lib.hid fun w2 (k : Ex w w2) => tape_any y b lb cb N2 w2 (hb.ex k) hN2
  have HRU : Hid (∀ B a c i w, i ≤ 60 → i ≤ c → c ≤ 9223372036854775807 → ReadsB w a i B → Calls Try.prog 8 #[.slice a i c] w (RuleOf B i w)) := Lib.hid fun B a c i w h0 h1 h2 h3 => HR.ok h0 h1 h2 h3
  have hN60 : N1 ≤ 60 := by omega
  have hK28 : K ≤ 28 := by omega
  have hKN : K ≤ N2 := by omega
  have hN260 : N2 ≤ 60 := by omega
  have hcase : (N2 ≤ 28 ∧ (N2 : Int) = (K : Int)) ∨ (28 < N2 ∧ (K : Int) = 28) := by omega
  have HWI := Lib.hid fun w => within_any n (60 - (K : Int) + 1) w (by omega) (by omega)
  have m0 := Int.emod_nonneg n (b := 60 - (K : Int) + 1) (by omega)
  have m1 := Int.emod_lt_of_pos n (b := 60 - (K : Int) + 1) (by omega)
  obtain ⟨T, hT⟩ : ∃ T : Nat, n % (60 - (K : Int) + 1) = (T : Int) := ⟨(n % (60 - (K : Int) + 1)).toNat, by omega⟩
  rw [hT] at HWI m0 m1
  have hT60 : K + T ≤ 60 := by omega
  obtain ⟨B, hB⟩ : ∃ B, tb z = B := ⟨_, rfl⟩
  obtain ⟨R, hR⟩ : ∃ R, tb y = R := ⟨_, rfl⟩
  rw [hB] at HT1
  rw [hR] at HT2
  have HEQ := Lib.hid fun (Q : Nat → Bool) a2 c2 a3 c3 w2 (h1 : ReadsB w2 a2 K Q) (h2 : ReadsB w2 a3 K R) (he : ∀ i, i < K → Q i = R i) => equal_bits (ca := c2) (cb := c3) (by omega) h1 h2 he
  clear HR HN ha hb hN1 hN2 hB hR hT hK m0 m1
  go_enter Try.func5, Try.ntmps5
  go_upto_region 4 with (first
    | (go_at_call 14; (with_reducible refine (HY.out _).mono ?_); rintro e w1 ⟨rfl, hw1⟩)
    | (go_at_call 15; (with_reducible refine (HT2.out _ hw1).mono ?_); rintro e w2 ⟨v, rfl, hrow, hw2⟩))
  obtain ⟨a3, c3, rfl, hc3, hrd⟩ := hrow.out.hands (fl_length N2 _)
  have HRr := Lib.hid (ReadsB.less (ReadsB.fl hrd.out) hKN)
  have hx2 := hw1.trans hw2
  obtain ⟨hc3a, hc3b⟩ := hc3.out
  clear hrow hrd
  go_cut [1] (fun v1 wx => v1 = .slice a3 K c3 ∧ wx = w2)
  case first =>
    rcases hcase with ⟨q1, q2⟩ | ⟨q1, q2⟩
    · have e : K = N2 := by omega
      subst e
      go_wp2
      go_meet
      exact ⟨rfl, rfl⟩
    · have e : K = 28 := by omega
      subst e
      go_wp2
      go_meet
      exact ⟨rfl, rfl⟩
  case rest =>
  obtain ⟨rfl, rfl⟩ := hcut
  rename World => w2
  clear hcase
  go_upto_region 6 with (go_at_call 15; (with_reducible refine (HT1.out _ hx2).mono ?_); rintro e w3 ⟨v7, rfl, hrow, hw3⟩)
  have HX2 := Lib.hid hx2
  have HW3 := Lib.hid hw3
  have hrow0 : Hid (Row 5 .u8 w3 w2.heap.size v7 (fl N1 fun t => bw (B t))) := hrow
  clear hw1 hw2 hw3 hx2 HY HT1 HT2 hrow
  go_wp2
  go_loopg [7] (K - N1) (fun k v7 wr => ∃ (i : Nat) (F : Nat → Bool) (v : Value), i ≤ 60 ∧ v7 = v ∧ Hid (Row 5 .u8 wr w2.heap.size v (fl i fun t => bw (F t))) ∧ Hid (k = K - i) ∧ Ex w2 wr)
  case atStart => exact ⟨N1, B, _, hN60, rfl, hrow0, Lib.hid rfl, HW3.out⟩
  case round =>
    obtain ⟨i, F, v, hi60, rfl, hRow, hk, hx⟩ := hrel
    have hli := fl_length i fun t => bw (F t)
    obtain ⟨a7, c7, rfl, hc7, hrd7⟩ := hRow.out.hands hli
    by_cases hlt : i < K
    · have HM := Lib.hid (fl_upB F i true)
      have c1 := box_one wr (.int .u8 1) 5
      have HXw := Lib.hid (hx.alloc (.cells #[.int .u8 1] 5))
      have HRA := Lib.hid (hRow.out.ex ((Ex.refl wr).alloc (.cells #[.int .u8 1] 5)))
      go_wp2_with (at_builtin; refine wpList_append_int rfl _ _ 22 rfl w2.heap.size 5 .u8 1 Try.underlying22 info_byt _ (fl i fun t => bw (F t)) rfl HRA.out 1 wr.heap.size rfl c1 (by unfold maxLen; omega) (by omega) HXw.out.size ?_
                   intro v1 w4 hown4 hgrow4 hat4
                   have HX4 := Lib.hid (HRA.out.grown HXw.out hgrow4)
                   rw [show (1 : Int) = bw true from rfl, HM.out] at hown4
                   have HR4 := Lib.hid hown4
                   clear hown4 hgrow4 hat4 c1)
      go_roundg (K - (i + 1))
      case measure => have := hk.out; omega
      case rel => exact ⟨i + 1, _, _, by omega, rfl, HR4, Lib.hid rfl, HX4.out⟩
    · have g0 : decide ((i : Int) < (K : Int)) = false := decide_eq_false (by omega)
      have g0' : decide (i < K) = false := decide_eq_false (by omega)
      have HRK : Hid (Row 5 .u8 wr w2.heap.size (.slice a7 K c7) (fl K fun t => bw (F t))) := Lib.hid (by
        have := hRow.out.upto hli.symm (show K ≤ i by omega)
        rwa [fl_take _ (show K ≤ i by omega)] at this)
      have HX6 := Lib.hid hx
      have hc7a := hc7.out.1
      have hc7b := hc7.out.2
      have hnil : a7 = none → c7 = 0 := fun e => by
        rcases hRow.out.form with ⟨h1, _⟩ | ⟨g, cap, h1, _⟩
        · simp only [Value.slice.injEq] at h1; exact h1.2.2
        · simp only [Value.slice.injEq] at h1; rw [e] at h1; cases h1.1
      clear hRow hx hrd7 hrow0 HW3 hc7 hnil
      go_wp2_with (go_at_call 16; (with_reducible refine (HWI.out _).mono ?_); rintro e w5 ⟨rfl, rfl⟩)
      rename World => wy
      go_loopg [7, 42] T (fun k v7 v42 wr => ∃ (j : Nat) (F : Nat → Bool) (v : Value), j ≤ T ∧ v7 = v ∧ v42 = .int .i64 (j : Int) ∧ Hid (Row 5 .u8 wr w2.heap.size v (fl (K + j) fun t => bw (F t))) ∧ Hid (Gen F R K (K + j)) ∧ Hid (k = T - j) ∧ Ex w2 wr)
      case atStart => exact ⟨0, F, _, by omega, rfl, rfl, HRK, Lib.hid (Gen.full _ _ _), Lib.hid rfl, HX6.out⟩
      case round =>
        obtain ⟨j, F, v, hj, rfl, rfl, hRow, hG, hk2, hx⟩ := hrel
        have hlj := fl_length (K + j) fun t => bw (F t)
        obtain ⟨a8, c8, rfl, hc8, hrd8⟩ := hRow.out.hands hlj
        have HB8 := Lib.hid (ReadsB.fl hrd8.out)
        have HRr8 := Lib.hid (HRr.out.ex hx)
        by_cases hlt2 : j < T
        · have HX8 := Lib.hid hx
          clear hx hrd8
          rename World => wz
          go_wp2
          go_loopg [8, 46] K (fun m v8 v46 wr => ∃ (p : Nat) (x : Bool), p ≤ K ∧ v8 = .int .u8 (bw x) ∧ v46 = .int .i64 (p : Int) ∧ Hid (x = xs (fun t => R t && F (K + j - 1 - t)) p) ∧ Hid (m = K - p) ∧ wz = wr)
          case atStart => exact ⟨0, false, by omega, rfl, rfl, Lib.hid rfl, Lib.hid rfl, rfl⟩
          case round =>
            obtain ⟨p, x, hp, rfl, rfl, hxs, hm, rfl⟩ := hrel
            by_cases hpt : p < K
            · rcases HRr8.out with h0 | ⟨gB, oB, rfl, hB⟩
              · exact absurd hpt (by omega)
              rcases HB8.out with h0 | ⟨gA, oA, rfl, hA⟩
              · exact absurd hpt (by omega)
              have p1 := hB p hpt
              obtain ⟨t, ht⟩ : ∃ t, K + j - 1 - p = t := ⟨_, rfl⟩
              have p2 := hA t (by omega)
              have ht2 : (K : Int) + (j : Int) - 1 - (p : Int) = (t : Int) := by omega
              have hst := step_bw x (R p) (F t)
              have HXS : Hid (xor (R p && F t) x = xs (fun t => R t && F (K + j - 1 - t)) (p + 1)) := Lib.hid (by rw [xs, hxs.out, ht])
              obtain ⟨q, hq⟩ : ∃ q, xor (R p && F t) x = q := ⟨_, rfl⟩
              rw [hq] at hst HXS
              have HST := Lib.hid hst
              obtain ⟨u, hu⟩ : ∃ u, bw (R p) = u := ⟨_, rfl⟩
              obtain ⟨u2, hu2⟩ : ∃ u2, bw (F t) = u2 := ⟨_, rfl⟩
              rw [hu] at p1 HST
              rw [hu2] at p2 HST
              clear hB hA hst hq hu hu2 ht
              go_wp2
              go_roundg (K - (p + 1))
              case measure => have := hm.out; omega
              case rel => exact ⟨p + 1, q, by omega, by first | rfl | (exact congrArg (Value.int .u8) HST.out), by go_num, HXS, Lib.hid rfl, rfl⟩
            · have e : K = p := by omega
              have hnx : x = nx F R K (K + j) := by rw [hxs.out, e]; rfl
              have HGM : Hid (Gen (upB F (K + j) x) R K (K + (j + 1))) := Lib.hid (Gen.more hG.out fun _ => hnx)
              have HM := Lib.hid (fl_upB F (K + j) x)
              obtain ⟨u, hu⟩ : ∃ u, bw x = u := ⟨_, rfl⟩
              rw [hu] at HM
              have c1 := box_one wz (.int .u8 u) 5
              have HXw := Lib.hid (HX8.out.alloc (.cells #[.int .u8 u] 5))
              have HRA := Lib.hid (hRow.out.ex ((Ex.refl wz).alloc (.cells #[.int .u8 u] 5)))
              have g1 : decide ((p : Int) < (K : Int)) = false := decide_eq_false (by omega)
              rw [hu]
              clear hnx hxs e
              go_wp2_with (at_builtin; refine wpList_append_int rfl _ _ 22 rfl w2.heap.size 5 .u8 1 Try.underlying22 info_byt _ (fl (K + j) fun t => bw (F t)) rfl HRA.out u wz.heap.size rfl c1 (by unfold maxLen; omega) (by omega) HXw.out.size ?_
                           intro v1 w4 hown4 hgrow4 hat4
                           have HX4 := Lib.hid (HRA.out.grown HXw.out hgrow4)
                           rw [HM.out] at hown4
                           have HR4 := Lib.hid hown4
                           clear hown4 hgrow4 hat4 c1)
              go_roundg (T - (j + 1))
              case measure => have := hk2.out; omega
              case rel => exact ⟨j + 1, _, _, by omega, rfl, by go_num, HR4, HGM, Lib.hid rfl, HX4.out⟩
        · have e : T = j := by omega
          subst e
          have HRUF := Lib.hid fun w h => HRU.out F a8 c8 (K + T) w hT60 hc8.out.1 hc8.out.2 h
          have g1 : decide ((T : Int) < (T : Int)) = false := decide_eq_false (by omega)
          clear HRU hrd8 hRow
          go_upto_region 20 with (go_at_call 8; (with_reducible refine (HRUF.out _ HB8.out).mono ?_); rintro e w6 ⟨M, Q, a6, c6, rfl, hc6, hR6, hG6, hm6, hw6⟩)
          have hMK := hm6.out K R hG.out
          have HR6 := Lib.hid (HRr8.out.ex hw6)
          have HX6 := Lib.hid ((HX2.out.trans hx).trans hw6)
          have HQ : Hid (M = K → ¬ K + T < 2 * M → ∀ i, i < K → Q i = R i) := Lib.hid fun e h => by
            subst e
            exact massey_one hG6.out hG.out (by omega) hm6.out
          have hMl : M ≤ 60 := by omega
          clear hw6 hx hG6 hm6 HRUF HB8 HRr8 hG
          have g4 : decide ((M : Int) ≤ (K : Int)) = true := decide_eq_true (by omega)
          by_cases h1 : M < K
          · have g5 : decide ((M : Int) < (K : Int)) = true := decide_eq_true (by omega)
            go_wp2
            go_ret
            exact ⟨by simp, HX6.out⟩
          · have eM : M = K := by omega
            have g5 : decide ((M : Int) < (K : Int)) = false := decide_eq_false (by omega)
            by_cases h2 : K + T < 2 * M
            · have g6 : decide ((K : Int) + (T : Int) < 2 * (M : Int)) = true := decide_eq_true (by omega)
              clear eM
              go_wp2
              go_ret
              exact ⟨by simp, HX6.out⟩
            · have g6 : decide ((K : Int) + (T : Int) < 2 * (M : Int)) = false := decide_eq_false (by omega)
              have hq := HQ.out eM h2
              clear HQ
              subst eM
              have HE := Lib.hid (HEQ.out Q a6 c6 a3 c3 w6 hR6.out HR6.out hq)
              clear hq HEQ
              go_wp2_with (go_at_call 17; (with_reducible refine (HE.out).mono ?_); rintro e w7 ⟨rfl, hw7⟩)
              go_ret
              exact ⟨by simp, HX6.out.trans hw7⟩

end Go.Proofs.Ytebijjigjlcjdaa
