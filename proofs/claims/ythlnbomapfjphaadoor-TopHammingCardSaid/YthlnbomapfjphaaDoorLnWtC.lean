/-
  linear.Weights and Far.
-/
import Derived.Test.YthlnbomapfjphaaDoorLnBaC
import Derived.Test.YthlnbomapfjphaaDoorLnSays
namespace Go.Proofs.YthlnbomapfjphaaDoor
open Go.RowKit
open Ln

set_option maxHeartbeats 1000000 in
theorem weights_no {n : Int} {z : List Int} {a : Option Addr} {la ca : Nat} {w : World} (ha : IsInts .u16 2 w a la ca z) (hn : (Lit.int .i64 n).wf = true) (h0 : lnE n z ≠ 0) : Calls Tryd.prog 44 #[.int .i64 n, .slice a la ca] w (Nil2 (lnE n z) w) := by
  have HC := Lib.hid (words_no ha hn h0)
  obtain ⟨t, ht⟩ : ∃ t, lnE n z = t := ⟨_, rfl⟩
  rw [ht] at HC h0 ⊢
  have q1 : (t != 0) = true := by simpa using h0
  clear ha hn ht
  go_enter Tryd.func44, Tryd.ntmps44
  go_wp2_with (go_at_call 17; (with_reducible refine (HC.out).mono ?_); rintro e w2 ⟨a2, c2, rfl, hw2⟩)
  go_ret2
  exact ⟨_, _, rfl, hw2⟩

set_option maxRecDepth 100000 in
set_option maxHeartbeats 2000000 in
theorem weights_ok {m L M : Nat} {l : List Nat} {xs : List Int} {a : Option Addr} {ca : Nat} {w : World} (h1 : 1 ≤ m) (h12 : m ≤ 12) (hL : l.length = L) (hL6 : L ≤ 6) (hl : ∀ x ∈ l, x < 2 ^ m) (hX : wts m (cw m l) = xs) (hM : xs.length = M) (hr : Reads w .u16 a (il l)) :
    Calls Tryd.prog 44 #[.int .i64 (m : Int), .slice a L ca] w (Vec3 .i64 M xs w) := by
  subst hX
  rw [wts_length] at hM
  subst hM
  have hcd := cw_cd hl
  have hS := cw_small h12 hl
  have h64 := cw_64 hL hL6 hl
  have HW := words_ok (ca := ca) h1 h12 hL hL6 hl rfl rfl hr
  obtain ⟨W, hW⟩ : ∃ W, cw m l = W := ⟨_, rfl⟩
  rw [hW] at hcd hS h64 HW ⊢
  obtain ⟨N, hN⟩ : ∃ N, W.length = N := ⟨_, rfl⟩
  rw [il_length, hN] at HW
  rw [hN] at h64
  have HWO := Lib.hid HW
  have hp : 1 ≤ N := by rw [← hN]; exact List.length_pos_of_mem hcd.zero
  have HON := Lib.hid fun x w2 (h : x < 65536) => ones16_any x w2 h
  have HXS : Hid (∀ i, i < N → W.getD i 0 < 65536 ∧ nth (il W) i = ((W.getD i 0 : Nat) : Int) ∧ on 16 (W.getD i 0) = on m (W.getD i 0) ∧ ∀ j, wn m (W.take (i + 1)) j = wn m (W.take i) j + if on m (W.getD i 0) = j then 1 else 0) := Lib.hid fun i hi => by
    have e : W.getD i 0 = W[i]'(by omega) := by rw [List.getD_eq_getElem?_getD, List.getElem?_eq_getElem (by omega)]; rfl
    refine ⟨by rw [e]; exact hS _ (List.getElem_mem _), by rw [il_nth (by omega), e], ?_, wn_take (by omega) rfl⟩
    rw [e]
    exact on_up m 16 _ (hcd.lt _ (List.getElem_mem _)) (by omega)
  have HNL : Hid ((il W).length = N) := Lib.hid (by rw [il_length]; exact hN)
  have HNT : Hid (W.take N = W) := Lib.hid (by rw [← hN]; exact List.take_length)
  have HWT : Hid (fl (m + 1) (wn m W) = wts m W) := Lib.hid rfl
  clear hl hL hW hcd hS hr HW hN
  go_enter Tryd.func44, Tryd.ntmps44
  go_upto_region 4 with (go_at_call 17; (with_reducible refine (HWO.out).mono ?_); rintro e w1 ⟨a1, c1, rfl, hc1, hR1, hw1⟩)
  rcases hR1.out with h | ⟨gW, oW, rfl, hcW⟩
  · have := congrArg List.length h
    rw [HNL.out] at this
    have : N = 0 := this
    omega
  have HCW : Hid (∀ i, i < N → w1.cell? ⟨gW, oW + i, none⟩ = some (.int .u16 ((W.getD i 0 : Nat) : Int))) := Lib.hid fun i hi => by
    rw [hcW i (by rw [HNL.out]; exact hi), (HXS.out i hi).2.1]
  clear hR1 hcW HWO
  go_upto_region 5 with (at_make; go_loud (refine wpList_make_ints rfl _ _ 67 rfl w1.heap.size 3 .i64 8 Tryd.underlying67 info_int .i64 .i64 (m + 1) (by show Value.int .i64 ((m : Int) + 1) = Value.int .i64 ((m + 1 : Nat) : Int); simp) (by show Value.int .i64 ((m : Int) + 1) = Value.int .i64 ((m + 1 : Nat) : Int); simp) (by omega) (by unfold maxLen; omega) (Nat.le_refl _) ?_); intro w8 hown8 hgrow8
                         rw [fl_zero] at hown8
                         have HX8 := Lib.hid (ex_grown (Ex.refl w1) hgrow8 fun k hk => by cases hk)
                         have HR8 := Lib.hid hown8
                         clear hown8 hgrow8)
  obtain ⟨g, hg⟩ : ∃ g, w1.heap.size = g := ⟨_, rfl⟩
  have HG := Lib.hid hg
  have HX1 := Lib.hid hw1
  rw [hg] at HR8 ⊢
  clear hg hw1
  go_wp2
  go_loopg [25] N (fun k v25 wr => ∃ i : Nat, i ≤ N ∧ v25 = .int .i64 (i : Int) ∧ Hid (Row 3 .i64 wr g (.slice (some ⟨g, 0, none⟩) (m + 1) (m + 1)) (fl (m + 1) (wn m (W.take i)))) ∧ Hid (k = N - i) ∧ Ex w1 wr)
  case atStart => exact ⟨0, by omega, rfl, HR8, Lib.hid rfl, HX8.out⟩
  case round =>
    obtain ⟨i, hi, rfl, hRow, hk, hx⟩ := hrel
    by_cases hlt : i < N
    · obtain ⟨s1, s2, s3, s4⟩ := HXS.out i hlt
      have q1 := hx.cell (HCW.out i hlt)
      have hb := wn_le m (W.take i)
      have hb0 := wn_nonneg m (W.take i)
      obtain ⟨x, hxx⟩ : ∃ x, W.getD i 0 = x := ⟨_, rfl⟩
      rw [hxx] at q1 s1 s3 s4
      obtain ⟨o, ho⟩ : ∃ o, on m x = o := ⟨_, rfl⟩
      have hom : o ≤ m := by rw [← ho]; exact on_le m x
      have HO := Lib.hid fun w2 => HON.out x w2 s1
      rw [s3, ho] at HO
      obtain ⟨_, _, hcf, hfr⟩ := hRow.out.flat
      have HCF := Lib.hid hcf
      have HFR := Lib.hid hfr
      have hvb : 0 ≤ wn m (W.take i) o ∧ wn m (W.take i) o ≤ 64 := by
        have := hb o
        rw [List.length_take] at this
        exact ⟨hb0 o, by omega⟩
      obtain ⟨v, hv⟩ : ∃ v, wn m (W.take i) o = v := ⟨_, rfl⟩
      rw [hv] at hvb
      have HV := Lib.hid hv
      have HS4 := Lib.hid s4
      have HOO := Lib.hid ho
      clear hcf hfr hxx s2 s3 s4 ho hb hb0 hv
      go_wp2_with (go_at_call 58; (with_reducible refine (HO.out _).mono ?_); rintro e w9 ⟨rfl, hw9⟩
                   have hx9 := hx.trans hw9
                   have q2 := hw9.cell (HCF.out o (by omega))
                   rw [HV.out] at q2
                   have hfz : w9.frozen? ⟨g, o, none⟩ = false := (Below.frozen (p := ⟨g, o, none⟩) hw9 (World.block_lt_of_cell? wr ⟨g, o, none⟩ (HCF.out o (by omega)))).trans (HFR.out o)
                   have HR9 := hRow.out.ex hw9
                   have HS0 := HR9.flset o (v + 1)
                   have HX10 := Lib.hid (ex_grown hx9 HS0.2 (by intro k hk; cases hk; rw [HG.out]; exact Nat.le_refl _))
                   have hS1 := HS0.1
                   rw [fl_congr (H := wn m (W.take (i + 1))) fun t _ => by
                     rw [HS4.out, HOO.out]
                     by_cases e : t = o
                     · subst e; rw [upd_at, if_pos rfl, HV.out]
                     · rw [upd_ne e, if_neg (fun e2 => e e2.symm)]; omega] at hS1
                   have HS1 := Lib.hid hS1
                   clear HR9 HS0 hS1)
      go_roundg (N - (i + 1))
      case measure => have := hk.out; omega
      case rel => exact ⟨i + 1, by omega, by go_num, HS1, Lib.hid rfl, HX10.out⟩
    · have e : i = N := by omega
      subst e
      have hrow := hRow.out
      rw [HNT.out] at hrow
      have HRD : Hid (Reads wr .i64 (some ⟨g, 0, none⟩) (wts m W)) := Lib.hid hrow.read
      clear hrow hRow HR8
      go_wp2
      go_ret2
      exact ⟨_, _, rfl, Lib.hid ⟨Nat.le_refl _, by omega⟩, HRD, HX1.out.trans hx⟩

theorem weightsC : WeightsC := by
  constructor
  · intro n z a la ca w ha hn h0
    exact weights_no ha hn h0
  · intro n L M l xs a ca w h1 h12 hL hL6 _ _ hl hX hM hr
    exact weights_ok h1 h12 hL hL6 hl hX hM hr

set_option maxHeartbeats 1000000 in
theorem far_no {n : Int} {z : List Int} {a : Option Addr} {la ca : Nat} {w : World} (ha : IsInts .u16 2 w a la ca z) (hn : (Lit.int .i64 n).wf = true) (h0 : lnE n z ≠ 0) : Calls Tryd.prog 20 #[.int .i64 n, .slice a la ca] w (Says (.tuple #[.int .i64 0, .int .i64 (lnE n z)]) w) := by
  have HC := Lib.hid (weights_no ha hn h0)
  obtain ⟨t, ht⟩ : ∃ t, lnE n z = t := ⟨_, rfl⟩
  rw [ht] at HC h0 ⊢
  have q1 : (t != 0) = true := by simpa using h0
  clear ha hn ht
  go_enter Tryd.func20, Tryd.ntmps20
  go_wp2_with (go_at_call 44; (with_reducible refine (HC.out).mono ?_); rintro e w2 ⟨a2, c2, rfl, hw2⟩)
  go_ret2
  exact ⟨rfl, hw2⟩

set_option maxRecDepth 100000 in
set_option maxHeartbeats 2000000 in
theorem far_at {n L d : Nat} {D E : Int} {l : List Nat} {a : Option Addr} {ca : Nat} {w : World} (h1 : 1 ≤ n) (h12 : n ≤ 12) (hL : l.length = L) (hL6 : L ≤ 6) (hl : ∀ x ∈ l, x < 2 ^ n) (hd : 1 ≤ d) (hdn : d ≤ n + 1)
    (hz : ∀ j, 1 ≤ j → j < d → wn n (cw n l) j = 0) (hp : d ≤ n → 0 < wn n (cw n l) d ∧ D = (d : Int) ∧ E = 0) (hq : d = n + 1 → D = 0 ∧ E = 4) (hr : Reads w .u16 a (il l)) :
    Calls Tryd.prog 20 #[.int .i64 (n : Int), .slice a L ca] w (Says (.tuple #[.int .i64 D, .int .i64 E]) w) := by
  have HW := weights_ok (ca := ca) h1 h12 hL hL6 hl rfl (wts_length _ _) hr
  obtain ⟨F, hF⟩ : ∃ F, wn n (cw n l) = F := ⟨_, rfl⟩
  have hwt : wts n (cw n l) = fl (n + 1) F := by rw [← hF]; rfl
  rw [hwt] at HW
  rw [hF] at hz hp
  have HWO := Lib.hid HW
  have HZ := Lib.hid hz
  have HP := Lib.hid hp
  have HQ := Lib.hid hq
  clear hz hp hq HW hwt hF hr hl hL
  go_enter Tryd.func20, Tryd.ntmps20
  go_upto_region 4 with (go_at_call 44; (with_reducible refine (HWO.out).mono ?_); rintro e w1 ⟨a1, c1, rfl, hc1, hR1, hw1⟩)
  have HCF : Hid (∀ j, j < n + 1 → ∃ g o, a1 = some ⟨g, o, none⟩ ∧ w1.cell? ⟨g, o + j, none⟩ = some (.int .i64 (F j))) := Lib.hid fun j hj => by
    rcases hR1.out with h | ⟨g, o, h1, h2⟩
    · have := congrArg List.length h
      rw [fl_length] at this
      have : n + 1 = 0 := this
      omega
    · have := h2 j (by rw [fl_length]; exact hj)
      rw [fl_nth hj] at this
      exact ⟨g, o, h1, this⟩
  clear hR1 HWO
  have HX1 := Lib.hid hw1
  clear hw1
  go_wp2
  go_loopg [8] (d - 1) (fun k v8 wr => ∃ j : Nat, 1 ≤ j ∧ j ≤ d ∧ v8 = .int .i64 (j : Int) ∧ Hid (k = d - j) ∧ w1 = wr)
  case atStart => exact ⟨1, by omega, by omega, rfl, Lib.hid rfl, rfl⟩
  case round =>
    obtain ⟨j, hj1, hjd, rfl, hk3, rfl⟩ := hrel
    by_cases hjn : j ≤ n
    · obtain ⟨g, o, rfl, q1⟩ := HCF.out j (by omega)
      by_cases hjt : j < d
      · rw [HZ.out j hj1 hjt] at q1
        go_wp2
        go_roundg (d - (j + 1))
        case measure => have := hk3.out; omega
        case rel => exact ⟨j + 1, by omega, by omega, by go_num, Lib.hid rfl, rfl⟩
      · have e : j = d := by omega
        subst e
        obtain ⟨hx0, rfl, rfl⟩ := HP.out hjn
        obtain ⟨X, hX⟩ : ∃ X, F j = X := ⟨_, rfl⟩
        rw [hX] at q1 hx0
        clear hX
        go_wp2
        go_ret2
        exact ⟨rfl, HX1.out⟩
    · have e : j = d := by omega
      subst e
      obtain ⟨rfl, rfl⟩ := HQ.out (by omega)
      go_wp2
      go_ret2
      exact ⟨rfl, HX1.out⟩

theorem farC : FarC := by
  constructor
  · intro n z a la ca w ha hn h0
    exact far_no ha hn h0
  · intro n L l a ca w h1 h12 hL hL6 _ _ hl hW hr
    have hno := far_none (cw_cd hl) hW
    refine far_at (d := n + 1) h1 h12 hL hL6 hl (by omega) (Nat.le_refl _) (fun j hj1 _ => ?_) (fun h => by omega) (fun _ => ⟨rfl, rfl⟩) hr
    have hnn := wn_nonneg n (cw n l) j
    rcases Int.lt_trichotomy (wn n (cw n l) j) 0 with h | h | h
    · omega
    · exact h
    · obtain ⟨x, hx1, hx2⟩ := wn_pos.mp h
      rw [hno x hx1, on_zero] at hx2
      omega
  · intro n L d l a ca w h1 h12 hL hL6 _ _ hl hd hr
    obtain ⟨hf1, hf2, wd, hf3, hf4, hf5⟩ := hd
    have hdn : d ≤ n := by rw [← hf5]; exact on_le n wd
    refine far_at (d := d) h1 h12 hL hL6 hl hf2 (by omega) (fun j hj1 hjd => ?_) (fun _ => ⟨wn_pos.mpr ⟨wd, hf3, hf5⟩, rfl, rfl⟩) (fun h => by omega) hr
    have hnn := wn_nonneg n (cw n l) j
    rcases Int.lt_trichotomy (wn n (cw n l) j) 0 with h | h | h
    · omega
    · exact h
    · obtain ⟨x, hx1, hx2⟩ := wn_pos.mp h
      have hx0 : x ≠ 0 := fun e => by rw [e, on_zero] at hx2; omega
      have := hf1 x hx1 hx0
      omega

end Go.Proofs.YthlnbomapfjphaaDoor
