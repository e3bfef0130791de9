/-
  ReedSays, by contracts.
-/
import Derived.Test.YthlnbomapfjphaaReMend
import Derived.Deep.CutRange
import Derived.Deep.CutBlock
import Derived.Deep.DeepCutAuto
namespace Go.Proofs.Ythlnbomapfjphaa
open Go.RowKit
open Gf

/-- What is told of a slice of cells that came in. -/
def IsCels (w : World) (a : Option Addr) (len cap : Nat) (H : Nat → Bool) (B : Nat → Nat) : Prop := len ≤ cap ∧ cap * 2 ≤ 140737488351232 ∧ ReadsC w a len H B ∧ (a = none → cap = 0) ∧ ∀ i, B i < 256

theorem put_any (HP : RePutC) (n : Int) (K ca : Nat) (F : Nat → E) (a : Option Addr) (w : World) (hn : (Lit.int .i64 n).wf = true) (h1 : K ≤ ca) (h2 : ca ≤ 9223372036854775807) (hr : Reads w .u8 a (bl F K)) :
    Calls Try.prog 13 #[.slice a K ca, .int .i64 n] w (fun e w2 => ∃ a2 l2 c2, e = .returned (.tuple #[.slice a2 l2 c2, .int .i64 (rpE K n)]) ∧ Hid ((rpE K n ≠ 0 → l2 = 0) ∧ (rpE K n = 0 → (l2 : Int) = n ∧ ReadsF w2 a2 l2 (cr K F))) ∧ Ex w w2) := by
  by_cases h : rpE K n = 0
  · obtain ⟨k1, k2, k3⟩ := rpE_zero.mp h
    obtain ⟨N, rfl⟩ : ∃ N : Nat, n = (N : Int) := ⟨n.toNat, by omega⟩
    refine (HP.ok (k := K) (n := N) k1 (by omega) (by omega) h1 h2 (bl_vecF hr k1)).mono fun e w2 ⟨a2, c2, e1, e2, e3, e4⟩ => ?_
    exact ⟨a2, N, c2, by rw [h]; exact e1, Lib.hid ⟨fun h0 => absurd h h0, fun _ => ⟨rfl, e3.out⟩⟩, e4⟩
  · refine (HP.no (bl_length F K) h1 h2 hr bl_range hn h).mono fun e w2 ⟨a2, c2, e1, e2⟩ => ?_
    exact ⟨a2, 0, c2, e1, Lib.hid ⟨fun _ => rfl, fun h0 => absurd h0 h⟩, e2⟩

/-- All that Mend may answer. -/
theorem mend_all (HM : MendC) {n : Nat} {H : Nat → Bool} {B : Nat → Nat} {a : Option Addr} {ca : Nat} {k : Int} {w : World} (h1 : n ≤ ca) (h2 : ca ≤ 9223372036854775807) (h3 : ReadsC w a n H B) (h4 : ∀ i, B i < 256) (h5 : (Lit.int .i64 k).wf = true) :
    Calls Try.prog 14 #[.slice a n ca, .int .i64 k] w (fun e w2 => ∃ a2 l2 c2 er, e = .returned (.tuple #[.slice a2 l2 c2, .int .i64 er]) ∧ Hid ((meE n k ≠ 0 → er = meE n k ∧ l2 = 0) ∧
      (∀ K : Nat, k = (K : Int) → meE n k = 0 → (cnt H n < K → er = 9 ∧ l2 = 0) ∧ (K ≤ cnt H n → (mok H B n K → er = 0 ∧ l2 = n ∧ ReadsF w2 a2 n (mr H B n K)) ∧ (¬ mok H B n K → er = 8 ∧ l2 = 0)))) ∧ Ex w w2) := by
  by_cases h0 : meE n k = 0
  · obtain ⟨k1, k2, k3⟩ := meE_zero.mp h0
    obtain ⟨K, rfl⟩ : ∃ K : Nat, k = (K : Int) := ⟨k.toNat, by omega⟩
    by_cases hf : cnt H n < K
    · refine (HM.few h1 h2 h3 h4 k1 (by omega) (by omega) hf).mono fun e w2 ⟨a2, c2, e1, e2⟩ => ⟨a2, 0, c2, 9, e1, Lib.hid ⟨fun h => absurd h0 h, fun K2 e _ => ?_⟩, e2⟩
      obtain rfl : K = K2 := by omega
      exact ⟨fun _ => ⟨rfl, rfl⟩, fun h => by omega⟩
    · by_cases hm : mok H B n K
      · refine (HM.ok h1 h2 h3 h4 k1 (by omega) (by omega) (by omega) (mok_all h4 (by omega) (by omega) hm)).mono fun e w2 ⟨a2, c2, e1, _, e3, e4⟩ => ⟨a2, n, c2, 0, e1, Lib.hid ⟨fun h => absurd h0 h, fun K2 e _ => ?_⟩, e4⟩
        obtain rfl : K = K2 := by omega
        refine ⟨fun h => by omega, fun _ => ⟨fun _ => ⟨rfl, rfl, ?_⟩, fun h => absurd hm h⟩⟩
        have e5 : cr K (mr H B n K) = mr H B n K := funext fun t => mr_cr (by omega) (by omega) t
        rw [← e5]
        exact e3.out
      · refine (HM.sum h1 h2 h3 h4 k1 (by omega) (by omega) (by omega) (mok_not (by omega) (by omega) hm)).mono fun e w2 ⟨a2, c2, e1, e2⟩ => ⟨a2, 0, c2, 8, e1, Lib.hid ⟨fun h => absurd h0 h, fun K2 e _ => ?_⟩, e2⟩
        obtain rfl : K = K2 := by omega
        exact ⟨fun h => by omega, fun _ => ⟨fun h => absurd h hm, fun _ => ⟨rfl, rfl⟩⟩⟩
  · refine (HM.no h1 h2 h3 h4 h5 h0).mono fun e w2 ⟨a2, c2, e1, e2⟩ => ⟨a2, 0, c2, _, e1, Lib.hid ⟨fun _ => ⟨rfl, rfl⟩, fun K2 _ h => absurd h h0⟩, e2⟩

theorem same_row (n : Nat) (F : Nat → E) (a2 a3 : Option Addr) (c2 c3 : Nat) (w : World) (hn : n ≤ 20) (h2 : ReadsF w a2 n F) (h3 : ReadsF w a3 n F) : Calls Try.prog 15 #[.slice a2 n c2, .slice a3 n c3] w (Says (.bool true) w) := by
  have := bytes_equal _ _ a2 a3 c2 c3 w (by rw [bl_length]; unfold maxLen; omega) (by rw [bl_length]; unfold maxLen; omega) h2.reads h3.reads true (by simp)
  rw [bl_length] at this
  exact this
theorem same_nil (a2 a3 : Option Addr) (c2 c3 : Nat) (w : World) : Calls Try.prog 15 #[.slice a2 0 c2, .slice a3 0 c3] w (Says (.bool true) w) :=
  bytes_equal [] [] a2 a3 c2 c3 w (by simp) (by simp) (.inl rfl) (.inl rfl) true (by simp)

theorem same_some (n : Nat) (F : Nat → E) (a2 a3 : Option Addr) (c2 c3 : Nat) (w : World) (hn : n ≤ 20) (h2 : ReadsF w a2 n F) (h3 : ReadsF w a3 n F) : Calls Try.prog 19 #[.slice a2 n c2, .slice a3 n c3] w (Says (.bool true) w) := by
  have HS := Lib.hid (same_row n F a2 a3 c2 c3 w hn h2 h3)
  clear h2 h3
  go_enter Try.func19, Try.ntmps19
  go_wp2_with (go_at_call 15; (with_reducible refine (HS.out).mono ?_); rintro e w2 ⟨rfl, hw2⟩)
  go_ret
  exact ⟨rfl, hw2⟩
theorem same_none (a2 a3 : Option Addr) (c2 c3 : Nat) (w : World) : Calls Try.prog 19 #[.slice a2 0 c2, .slice a3 0 c3] w (Says (.bool true) w) := by
  have HS := Lib.hid (same_nil a2 a3 c2 c3 w)
  go_enter Try.func19, Try.ntmps19
  go_wp2_with (go_at_call 15; (with_reducible refine (HS.out).mono ?_); rintro e w2 ⟨rfl, hw2⟩)
  go_ret
  exact ⟨rfl, hw2⟩

set_option maxRecDepth 100000 in
set_option maxHeartbeats 4000000 in
theorem reedSays_of (HP : RePutC) (HM : MendC) (HK : ReCheckC) (a : Option Addr) (la ca : Nat) (z : List Int) (n : Int) (b : Option Addr) (lb cb : Nat) (H : Nat → Bool) (B : Nat → Nat) (k : Int) (w : World) (ha : IsInts .u8 1 w a la ca z) (hn : I64 n) (hb : IsCels w b lb cb H B) (hk : I64 k) :
    Calls Try.prog 3 #[.slice a la ca, .int .i64 n, .slice b lb cb, .int .i64 k] w (Says (.bool true) w) := by
  obtain ⟨F, hF⟩ : ∃ F : Nat → E, F = fun i => eo (nth z i) := ⟨_, rfl⟩
  have hla := ha.1
  have hbz : bl F la = z := by rw [hF, ← hla]; exact bl_of fun x hx => wf_u8 (ha.2.2.2.2.2 x hx)
  have hra : Reads w .u8 a (bl F la) := by rw [hbz]; exact ha.2.2.2.1
  have hca := ha.2.1
  have hca2 : ca ≤ 140737488351232 := by have := ha.2.2.1; omega
  have hcb := hb.1
  have hcb2 : cb ≤ 140737488351232 := by have := hb.2.1; omega
  have HPA := Lib.hid (put_any HP n la ca F a w (wf_int' hn) hca (by omega) hra)
  have HMA := Lib.hid fun w2 (h : Ex w w2) => mend_all HM (k := k) hcb (by omega) (hb.2.2.1.ex h) hb.2.2.2.2 (wf_int' hk)
  have HCK := Lib.hid fun w2 (h : Ex w w2) => HK.all (k := k) hcb (by omega) (hb.2.2.1.ex h) (wf_int' hk)
  have HRC := Lib.hid fun w2 (h : Ex w w2) => hb.2.2.1.ex h
  have HBB := Lib.hid hb.2.2.2.2
  have HRA := Lib.hid fun w2 (h : Ex w w2) => hra.ex h
  have HE0 : Hid (rpE la n = if la = 0 ∨ 20 < la then 2 else if n < la ∨ 20 < n then 1 else 0) := Lib.hid rfl
  obtain ⟨er, her⟩ : ∃ er, rpE la n = er := ⟨_, rfl⟩
  rw [her] at HPA HE0
  have HM0 : Hid (meE lb k = if 20 < lb then 2 else if k < 1 ∨ (lb : Int) < k then 1 else 0) := Lib.hid rfl
  obtain ⟨me, hme⟩ : ∃ me, meE lb k = me := ⟨_, rfl⟩
  rw [hme] at HMA HCK HM0
  clear ha hn hb hk HP HM HK hF hla hbz hra her hme
  go_enter Try.func3, Try.ntmps3
  go_upto_block 0 with (first
    | (go_at_call 13; (with_reducible refine (HPA.out).mono ?_); rintro e w1 ⟨a1, l1, c1, rfl, hp1, hw1⟩
       have HX1 := Lib.hid hw1
       clear HPA hw1)
    | (go_at_call 14; (with_reducible refine (HMA.out _ HX1.out).mono ?_); rintro e w2 ⟨a2, l2, c2, mr', rfl, hm2, hw2⟩
       have HX2 := Lib.hid (HX1.out.trans hw2)
       have HR1 := Lib.hid hp1.out.2
       have HX12 := Lib.hid hw2
       clear HMA hw2))
  go_cut [] (fun wx => Ex w2 wx)
  case first =>
    obtain ⟨b1, hb1⟩ : ∃ b1 : Bool, decide (la = 0 ∨ 20 < la) = b1 := ⟨_, rfl⟩
    have HB1 := Lib.hid hb1
    clear hb1
    go_upto_region 11 with fail
    go_cut [52] (fun v52 wx => v52 = .bool b1 ∧ w2 = wx)
    case first =>
      by_cases h1 : la = 0
      · have e : b1 = true := by rw [← HB1.out]; exact decide_eq_true (.inl h1)
        subst e
        subst h1
        go_wp2
        go_meet
        exact ⟨rfl, rfl⟩
      · have q1 : decide ((la : Int) < 1) = false := decide_eq_false (by omega)
        have q1' : decide (la < 1) = false := decide_eq_false (by omega)
        by_cases h2 : 20 < la
        · have e : b1 = true := by rw [← HB1.out]; exact decide_eq_true (.inr h2)
          subst e
          go_wp2
          go_meet
          exact ⟨by simp; omega, rfl⟩
        · have e : b1 = false := by rw [← HB1.out]; exact decide_eq_false (by omega)
          subst e
          go_wp2
          go_meet
          exact ⟨by simp; omega, rfl⟩
    case rest =>
    obtain ⟨rfl, rfl⟩ := hcut
    cases b1 with
    | true =>
      obtain rfl : er = 2 := by rw [HE0.out, if_pos (of_decide_eq_true HB1.out)]
      obtain rfl : l1 = 0 := hp1.out.1 (by decide)
      go_wp2
      go_meet
      exact Ex.refl _
    | false =>
      have hla := of_decide_eq_false HB1.out
      have HE1 := HE0.out
      rw [if_neg hla] at HE1
      by_cases h1 : n < (la : Int)
      · obtain rfl : er = 1 := by rw [HE1, if_pos (.inl h1)]
        obtain rfl : l1 = 0 := hp1.out.1 (by decide)
        clear HE1
        go_wp2
        go_meet
        exact Ex.refl _
      · by_cases h2 : 20 < n
        · obtain rfl : er = 1 := by rw [HE1, if_pos (.inr h2)]
          obtain rfl : l1 = 0 := hp1.out.1 (by decide)
          clear HE1
          go_wp2
          go_meet
          exact Ex.refl _
        · obtain rfl : er = 0 := by rw [HE1, if_neg (by omega)]
          obtain ⟨hl1, hR1⟩ := hp1.out.2 rfl
          obtain ⟨N, rfl⟩ : ∃ N : Nat, n = (N : Int) := ⟨n.toNat, by omega⟩
          obtain rfl : l1 = N := by omega
          have hla1 : 1 ≤ la := by omega
          have hla2 : la ≤ l1 := by omega
          have hN : l1 ≤ 20 := by omega
          clear HE1 hp1 hl1 HE0
          have HRO := Lib.hid fun wx g c (h0 : Ex w wx) (h : ReadsF wx g la bn) => rowOf_any bn F la l1 c ca g a wx hla1 (by omega) (by omega) hN h (bl_vecF (HRA.out wx h0) hla1)
          go_wp2
          go_loopg [13, 32] la (fun m v13 v32 wr => ∃ (i : Nat) (u : Value), i ≤ la ∧ v13 = u ∧ v32 = .int .i64 (i : Int) ∧ Hid (Row 5 .u8 wr w2.heap.size u (bl bn i)) ∧ Hid (m = la - i) ∧ Ex w2 wr)
          case atStart => exact ⟨0, _, by omega, rfl, rfl, Lib.hid (Row.nil _ _ _ _), Lib.hid rfl, Ex.refl _⟩
          case round =>
            obtain ⟨i, u, hi, rfl, rfl, hRow, hm, hx⟩ := hrel
            by_cases hlt : i < la
            · have hi20 : i ≤ 20 := by omega
              have hbl := bl_snoc bn i
              rw [bn_v (by omega)] at hbl
              have HBL := Lib.hid hbl
              have c1' := cell_one8 wr (.int .u8 (i : Int)) 5
              have HXw := Lib.hid (hx.alloc (.cells #[.int .u8 (i : Int)] 5))
              have HRw := Lib.hid (hRow.out.ex ((Ex.refl wr).alloc (.cells #[.int .u8 (i : Int)] 5)))
              clear hbl
              go_wp2_with (at_builtin; refine wpList_append_int rfl _ _ 22 rfl w2.heap.size 5 .u8 1 Try.underlying22 info_u8 _ (bl bn i) rfl HRw.out (i : Int) wr.heap.size rfl c1' (by rw [bl_length]; unfold maxLen; omega) (by rw [bl_length]; omega) HXw.out.size ?_
                           intro v1 w3 hown3 hgrow3 hat3
                           have HX3 := Lib.hid (HRw.out.grown HXw.out hgrow3)
                           rw [HBL.out] at hown3
                           have HR3 := Lib.hid hown3
                           clear hown3 hgrow3 hat3 c1')
              go_roundg (la - (i + 1))
              case measure => have := hm.out; omega
              case rel => exact ⟨i + 1, _, by omega, rfl, by go_num, HR3, Lib.hid rfl, HX3.out⟩
            · obtain rfl : i = la := by omega
              obtain ⟨a13, c13, hv, d13, e13, r13⟩ := hRow.out.reads2
              rw [bl_length] at hv d13
              subst hv
              have HV := Lib.hid (bl_vecF r13 hla1)
              clear hRow r13
              go_wp2_with (first
                | (go_at_call 16; (with_reducible refine (HRO.out _ _ _ (HX2.out.trans hx) HV.out).mono ?_); rintro e w3 ⟨g3, c3, rfl, hc3, hR3, hw3⟩
                   have hRF : ReadsF w3 (some ⟨g3, 0, none⟩) l1 (cr i F) := ⟨g3, 0, rfl, fun j hj => by rw [Nat.zero_add]; exact hR3.out.1 j hj⟩)
                | (go_at_call 15; (with_reducible refine (same_row l1 (cr i F) _ _ _ _ _ hN (hR1.ex (HX12.out.trans (hx.trans hw3))) hRF).mono ?_); rintro e w4 ⟨rfl, hw4⟩))
              go_meet
              exact (hx.trans hw3).trans hw4
  case rest =>
  rename World => w5
  have HX5 := Lib.hid (HX2.out.trans hcut)
  by_cases g1 : 20 < lb
  · obtain rfl : me = 2 := by rw [HM0.out, if_pos g1]
    obtain ⟨rfl, rfl⟩ := hm2.out.1 (by decide)
    go_wp2_with (go_at_call 17; (with_reducible refine (HCK.out _ HX5.out).mono ?_); rintro e w6 ⟨rfl, hw6⟩)
    go_ret
    exact ⟨rfl, HX5.out.trans hw6⟩
  have HM1 := HM0.out
  rw [if_neg g1] at HM1
  by_cases g2 : k < 1
  · obtain rfl : me = 1 := by rw [HM1, if_pos (.inl g2)]
    obtain ⟨rfl, rfl⟩ := hm2.out.1 (by decide)
    clear HM1
    go_wp2_with (go_at_call 17; (with_reducible refine (HCK.out _ HX5.out).mono ?_); rintro e w6 ⟨rfl, hw6⟩)
    go_ret
    exact ⟨rfl, HX5.out.trans hw6⟩
  by_cases g3 : (lb : Int) < k
  · obtain rfl : me = 1 := by rw [HM1, if_pos (.inr g3)]
    obtain ⟨rfl, rfl⟩ := hm2.out.1 (by decide)
    clear HM1
    go_wp2_with (go_at_call 17; (with_reducible refine (HCK.out _ HX5.out).mono ?_); rintro e w6 ⟨rfl, hw6⟩)
    go_ret
    exact ⟨rfl, HX5.out.trans hw6⟩
  obtain rfl : me = 0 := by rw [HM1, if_neg (by omega)]
  clear HM1 HM0
  obtain ⟨K, rfl⟩ : ∃ K : Nat, k = (K : Int) := ⟨k.toNat, by omega⟩
  obtain ⟨m1, m2⟩ := hm2.out.2 K rfl rfl
  have HMO := Lib.hid fun wx (h : Ex w wx) => mendOf_any H B lb K cb b wx (by omega) (by omega) (by omega) (by omega) HBB.out (HRC.out wx h)
  clear hm2 HRC HBB
  by_cases f1 : cnt H lb < K
  · obtain ⟨rfl, rfl⟩ := m1 f1
    have HMN := Lib.hid fun wx (h : Ex w wx) => (HMO.out wx h).mono (R' := Nil2 9 wx) fun e w2 h => by
      rcases h with ⟨_, h⟩ | ⟨h, _⟩
      · exact h
      · omega
    clear HMO m1 m2
    go_wp2_with (first
      | (go_at_call 17; (with_reducible refine (HCK.out _ HX5.out).mono ?_); rintro e w6 ⟨rfl, hw6⟩
         have HX6 := Lib.hid (HX5.out.trans hw6))
      | (go_at_call 18; (with_reducible refine (HMN.out _ HX6.out).mono ?_); rintro e w7 ⟨a7, c7, rfl, hw7⟩)
      | (go_at_call 19; (with_reducible refine (same_none _ _ _ _ _).mono ?_); rintro e w8 ⟨rfl, hw8⟩))
    go_ret
    exact ⟨rfl, HX6.out.trans (hw7.trans hw8)⟩
  by_cases f2 : mok H B lb K
  · obtain ⟨rfl, rfl, hR2⟩ := (m2 (by omega)).1 f2
    have HMN := Lib.hid fun wx (h : Ex w wx) => (HMO.out wx h).mono (R' := Vec2 l2 (mr H B l2 K) wx) fun e w2 h => by
      rcases h with ⟨h, _⟩ | ⟨_, ⟨_, h⟩ | ⟨h, _⟩⟩
      · omega
      · exact h
      · exact absurd f2 h
    clear HMO m1 m2
    go_wp2_with (first
      | (go_at_call 17; (with_reducible refine (HCK.out _ HX5.out).mono ?_); rintro e w6 ⟨rfl, hw6⟩
         have HX6 := Lib.hid (HX5.out.trans hw6))
      | (go_at_call 18; (with_reducible refine (HMN.out _ HX6.out).mono ?_); rintro e w7 ⟨a7, c7, rfl, hc7, hR7, hw7⟩)
      | (go_at_call 19; (with_reducible refine (same_some l2 (mr H B l2 K) _ _ _ _ _ (by omega) (hR2.ex (hcut.trans (hw6.trans hw7))) hR7.out).mono ?_); rintro e w8 ⟨rfl, hw8⟩))
    go_ret
    exact ⟨rfl, HX6.out.trans (hw7.trans hw8)⟩
  · obtain ⟨rfl, rfl⟩ := (m2 (by omega)).2 f2
    have HMN := Lib.hid fun wx (h : Ex w wx) => (HMO.out wx h).mono (R' := Nil2 8 wx) fun e w2 h => by
      rcases h with ⟨h, _⟩ | ⟨_, ⟨h, _⟩ | ⟨_, h⟩⟩
      · omega
      · exact absurd h f2
      · exact h
    clear HMO m1 m2
    go_wp2_with (first
      | (go_at_call 17; (with_reducible refine (HCK.out _ HX5.out).mono ?_); rintro e w6 ⟨rfl, hw6⟩
         have HX6 := Lib.hid (HX5.out.trans hw6))
      | (go_at_call 18; (with_reducible refine (HMN.out _ HX6.out).mono ?_); rintro e w7 ⟨a7, c7, rfl, hw7⟩)
      | (go_at_call 19; (with_reducible refine (same_none _ _ _ _ _).mono ?_); rintro e w8 ⟨rfl, hw8⟩))
    go_ret
    exact ⟨rfl, HX6.out.trans (hw7.trans hw8)⟩

end Go.Proofs.Ythlnbomapfjphaa
