/-
  TablesOwn, by contracts.
-/
import Derived.Test.YthlnbomapfjphaaTbOwn0
import Derived.Test.YthlnbomapfjphaaMatW
import Derived.Deep.CutRange
import Derived.Deep.DeepCutAuto
namespace Go.Proofs.Ythlnbomapfjphaa
open Go.RowKit
open Gf

/-- n rows that may be written, or none, and an error. -/
def TabA (n : Nat) (er : Int) (w : World) (e : Ending) (w2 : World) : Prop := ∃ a2 c2, e = .returned (.tuple #[.slice a2 n c2, .int .i64 er]) ∧ Hid ((n = 0 ∧ a2 = none ∧ c2 = 0) ∨ (1 ≤ n ∧ Fulls w2 w.heap.size w2.heap.size a2 n)) ∧ Ex w w2
theorem TabA.nil {er : Int} {w : World} {e : Ending} {w2 : World} (h : Says (.tuple #[.slice none 0 0, .int .i64 er]) w e w2) : TabA 0 er w e w2 := ⟨none, 0, h.1, Lib.hid (.inl ⟨rfl, rfl, rfl⟩), h.2⟩
theorem TabF.any {n : Nat} {w : World} {e : Ending} {w2 : World} (hn : 1 ≤ n) (h : TabF n w e w2) : TabA n 0 w e w2 := by
  obtain ⟨a2, c2, h1, h2, h3⟩ := h
  exact ⟨a2, c2, h1, Lib.hid (.inr ⟨hn, h2.out⟩), h3⟩

theorem mul_a {m n : List (List Int)} {a b : Option Addr} {la ca lb cb : Nat} {w : World} (ha : IsMat .u8 w a la ca m) (hb : IsMat .u8 w b lb cb n) : ∃ (K : Nat) (er : Int), K ≤ 12 ∧ ∀ w2, Ex w w2 → Calls Try.prog 28 #[.slice a la ca, .slice b lb cb] w2 (TabA K er w2) := by
  by_cases h : mulE m n = 0
  · obtain ⟨h1, h2, h3⟩ := mulE_zero.mp h
    obtain ⟨s1, s2, s3, s4, s5⟩ := ha.ok h1
    obtain ⟨t1, t2, t3, t4, t5⟩ := hb.ok h2
    have e : colsM m = lb := by rw [← h3, hb.1]
    rw [e] at s5 s3 s4
    exact ⟨la, 0, s2, fun w2 k => (mmul_own s1 s2 t1 t2 t3 t4 (s5.ex k) (t5.ex k)).mono fun _ _ h => h.any s1⟩
  · exact ⟨0, mulE m n, by omega, fun w2 k => (mmul_nil (ha.ex k) (hb.ex k) h).mono fun _ _ h => TabA.nil h⟩
theorem inv_a {m : List (List Int)} {a : Option Addr} {la ca : Nat} {w : World} (ha : IsMat .u8 w a la ca m) : ∃ (K : Nat) (er : Int), K ≤ 12 ∧ ∀ w2, Ex w w2 → Calls Try.prog 29 #[.slice a la ca] w2 (TabA K er w2) := by
  by_cases h : detE m = 0
  · obtain ⟨h1, h3⟩ := detE_zero.mp h
    obtain ⟨s1, s2, s3, s4, s5⟩ := ha.ok h1
    have e : colsM m = la := by rw [← h3, ha.1]
    rw [e] at s5
    by_cases hd : det (tbl m) la = 0
    · exact ⟨0, 5, by omega, fun w2 k => (minv_zero s1 s2 (s5.ex k) hd).mono fun _ _ h => TabA.nil h⟩
    · obtain ⟨B, hB⟩ := inv_some hd
      exact ⟨la, 0, s2, fun w2 k => (minv_own s1 s2 (s5.ex k) hB).mono fun _ _ h => h.any s1⟩
  · exact ⟨0, detE m, by omega, fun w2 k => (minv_nil (ha.ex k) h).mono fun _ _ h => TabA.nil h⟩

/-- A row of bytes that may be written and begins with y, or none, and an error. -/
def RowA (L n : Nat) (er : Int) (y : List Int) (w : World) (e : Ending) (w2 : World) : Prop := ∃ a2 c2, e = .returned (.tuple #[.slice a2 n c2, .int .i64 er]) ∧ Hid ((er ≠ 0 ∧ n = 0 ∧ a2 = none ∧ c2 = 0) ∨ (er = 0 ∧ L ≤ n ∧ n ≤ c2 ∧ Full w2 w.heap.size w2.heap.size (.slice a2 n c2) ∧ Reads w2 .u8 a2 y)) ∧ Ex w w2
theorem put_a (HP : RePutC) {y : List Int} {d : Option Addr} {ld cd : Nat} {n : Int} {w : World} (hd : IsInts .u8 1 w d ld cd y) (hn : I64 n) : ∃ (K : Nat) (er : Int), K ≤ 20 ∧ ∀ w2, Ex w w2 → Calls Try.prog 13 #[.slice d ld cd, .int .i64 n] w2 (RowA ld K er y w2) := by
  by_cases h : rpE ld n = 0
  · obtain ⟨h1, h2, h3⟩ := rpE_zero.mp h
    obtain ⟨N, rfl⟩ : ∃ N : Nat, n = (N : Int) := ⟨n.toNat, by omega⟩
    have hcap := hd.2.1
    have hcap2 : cd ≤ 9223372036854775807 := by have := hd.2.2.1; omega
    refine ⟨N, 0, by omega, fun w2 k => (HP.own (n := N) h1 (by omega) (by omega) hcap hcap2 ((hd.vecF h1).ex k)).mono ?_⟩
    rintro e w3 ⟨g, c2, rfl, hc2, hR, hF, hx⟩
    refine ⟨_, c2, rfl, Lib.hid (.inr ⟨rfl, by omega, hc2.out.1, hF.out, .inr ⟨g, 0, rfl, fun i hi => ?_⟩⟩), hx⟩
    have hi2 : i < ld := by rw [← hd.1]; exact hi
    have hc := hR.out.2.1 i (by omega)
    have hb := wf_u8 (hd.2.2.2.2.2 _ (nth_mem hi))
    rw [cr_at (by omega) hi2, eo_v hb.1 hb.2] at hc
    rw [Nat.zero_add]
    exact hc
  · exact ⟨0, rpE ld n, by omega, fun w2 k => (HP.nil hd.1 hd.2.1 (by have := hd.2.2.1; omega) (hd.2.2.2.1.ex k) (fun x hx => wf_u8 (hd.2.2.2.2.2 x hx)) (wf_int' hn) h).mono fun _ _ ⟨he, hx⟩ => ⟨none, 0, he, Lib.hid (.inl ⟨h, rfl, rfl, rfl⟩), hx⟩⟩

set_option maxRecDepth 100000 in
set_option maxHeartbeats 4000000 in
theorem tablesOwn_of (HD : DetC) (HK : RankC) (HP : RePutC) (a : Option Addr) (la ca : Nat) (m : List (List Int)) (b : Option Addr) (lb cb : Nat) (k : List (List Int)) (d : Option Addr) (ld cd : Nat) (y : List Int) (n : Int) (w : World)
    (ha : IsMat .u8 w a la ca m) (hb : IsMat .u8 w b lb cb k) (hd : IsInts .u8 1 w d ld cd y) (hn : I64 n) (hla : la ≤ 1048576) (hlb : lb ≤ 1048576) (hra : ∀ r ∈ m, r.length ≤ 1048576) (hrb : ∀ r ∈ k, r.length ≤ 1048576) (hld : ld ≤ 1048576) :
    Calls Try.prog 8 #[.slice a la ca, .slice b lb cb, .slice d ld cd, .int .i64 n] w (Says (.bool true) w) := by
  have HTY := Lib.hid fun w => tables_yes HD HK w
  have HRY := Lib.hid fun w => rows_yes HP w
  obtain ⟨us, hul, hus, hur, huS⟩ := ha.vals
  obtain ⟨vs, hvl, hvs, hvr, hvS⟩ := hb.vals
  obtain ⟨K1, e1, hK1, hM⟩ := mul_a ha hb
  obtain ⟨K2, e2, hK2, hI⟩ := inv_a ha
  obtain ⟨K3, e3, hK3, hPA⟩ := put_a HP hd hn
  have na := ha.2.2.2.2.1
  have nb := hb.2.2.2.2.1
  have nd := hd.2.2.2.2.1
  have hdl := hd.1
  have hdr := hd.2.2.2.1
  have hdc := hd.2.1
  have hac := ha.2.1
  have hbc := hb.2.1
  obtain ⟨T, hT⟩ : ∃ T, la + lb = T := ⟨_, rfl⟩
  have HCO : Hid (∀ w2, Ex w w2 → Calls Try.prog 26 #[.slice (some ⟨w2.heap.size, 0, none⟩) 2 2] (w2.alloc (.cells #[.slice a la ca, .slice b lb cb] 44)) (fun e w3 => ∃ a3 c3, e = .returned (.slice a3 T c3) ∧ Hid (ReadsV w3 a3 T (nthV (us ++ vs))) ∧ Hid (∀ p, a3 = some p → w2.heap.size ≤ p.block) ∧ Ex w2 w3)) := Lib.hid fun w2 hx => concat_rows_at us vs la lb _ T a b ca cb w2 rfl hul hvl hT hla hlb hus hvs (hur.ex hx) (hvr.ex hx) na nb
  obtain ⟨R, hR⟩ : ∃ R, m ++ k = R := ⟨_, rfl⟩
  have hRl : R.length = T := by rw [← hR, List.length_append, ha.1, hb.1, hT]
  have hRb : ∀ r, r < T → (rowM R r).length ≤ 1048576 := fun r hr => by
    have := rowM_mem (m := R) (r := r) (by omega)
    rw [← hR] at this ⊢
    rcases List.mem_append.mp this with h | h
    · exact hra _ h
    · exact hrb _ h
  have hrow : ∀ r, r < T → ∃ (ar : Option Addr) (c : Nat), nthV (us ++ vs) r = .slice ar (rowM R r).length c ∧ Reads w .u8 ar (rowM R r) ∧ (ar = none → c = 0) := fun r hr => by
    by_cases h : r < la
    · obtain ⟨ar, c, q1, q2, _, _, q5⟩ := huS.2 r (by rw [ha.1]; exact h)
      have g1 : nthV (us ++ vs) r = nthV us r := by unfold nthV; rw [List.getD_eq_getElem?_getD, List.getD_eq_getElem?_getD, List.getElem?_append_left (by omega)]
      have g2 : rowM R r = rowM m r := by rw [← hR]; unfold rowM; rw [List.getD_eq_getElem?_getD, List.getD_eq_getElem?_getD, List.getElem?_append_left (by have := ha.1; omega)]
      rw [g1, g2]
      exact ⟨ar, c, q1, q2, q5⟩
    · obtain ⟨ar, c, q1, q2, _, _, q5⟩ := hvS.2 (r - la) (by rw [hb.1]; omega)
      have g1 : nthV (us ++ vs) r = nthV vs (r - la) := by unfold nthV; rw [List.getD_eq_getElem?_getD, List.getD_eq_getElem?_getD, List.getElem?_append_right (by omega), hul]
      have g2 : rowM R r = rowM k (r - la) := by rw [← hR]; unfold rowM; rw [List.getD_eq_getElem?_getD, List.getD_eq_getElem?_getD, List.getElem?_append_right (by have := ha.1; omega), ha.1]
      rw [g1, g2]
      exact ⟨ar, c, q1, q2, q5⟩
  obtain ⟨U, hU⟩ : ∃ U, us ++ vs = U := ⟨_, rfl⟩
  rw [hU] at HCO hrow
  have HMU := Lib.hid hM
  have HIN := Lib.hid hI
  have HPU := Lib.hid hPA
  have HRO := Lib.hid hrow
  have HRL := Lib.hid hRl
  have HRB := Lib.hid hRb
  have HCD := Lib.hid fun w2 (hx : Ex w w2) => clone_any hdl hld (hdr.ex hx) nd
  have HDR := Lib.hid fun w2 (hx : Ex w w2) => hdr.ex hx
  have HDL := Lib.hid hdl
  have hT2 : T ≤ 2097152 := by omega
  clear ha hb hd hn hra hrb hul hus hur huS hvl hvs hvr hvS hM hI hPA na nb nd hdl hdr hR hRl hRb hrow hU HD HK HP hT
  go_enter Try.func8, Try.ntmps8
  go_upto_region 5 with (first
    | (go_at_call 25; (with_reducible refine (HTY.out _).mono ?_); rintro e w1 ⟨rfl, hw1⟩)
    | (go_at_call 20; (with_reducible refine (HRY.out _).mono ?_); rintro e w2 ⟨rfl, hw2⟩
       have hx2 := hw1.trans hw2)
    | (go_at_call 26; (with_reducible refine (HCO.out _ hx2).mono ?_); rintro e w3 ⟨a3, c3, rfl, hr3, _, hw3⟩))
  have HX3 := Lib.hid (hx2.trans hw3)
  clear hw1 hw2 hx2 hw3
  have HX0 := Lib.hid (Ex.refl w3)
  go_wp2
  go_loopg [9, 38] T (fun k v9 v38 wr => ∃ (i : Nat) (v : Value) (ws : List Value), i ≤ T ∧ v9 = v ∧ v38 = .int .i64 (i : Int) ∧ Hid (RowV 22 wr w3.heap.size v ws) ∧ Hid (Slcs .u8 wr ws (R.take i)) ∧ Hid (Ap wr ws v.ownBlock) ∧ Hid (k = T - i) ∧ Ex w3 wr)
  case atStart => exact ⟨0, _, [], by omega, rfl, rfl, Lib.hid (RowV.nil _ _ _), Lib.hid (by rw [List.take_zero]; exact Slcs.nil _ _), Lib.hid (Ap.nil _ _), Lib.hid rfl, HX0.out⟩
  case round =>
    obtain ⟨i, v, ws, hi, rfl, rfl, hRow, hSl, hAp, hk, hx⟩ := hrel
    by_cases hlt : i < T
    · rcases hr3.out with h0 | ⟨g, o, rfl, hc⟩
      · omega
      have q1 := hx.cell (hc i hlt)
      obtain ⟨ar, c, hv, hrr, hnil⟩ := HRO.out i hlt
      rw [hv] at q1
      have hwl : ws.length = i := by rw [hSl.out.1, List.length_take, HRL.out]; omega
      have htk : R.take (i + 1) = R.take i ++ [rowM R i] := by rw [List.take_add_one, List.getElem?_eq_getElem (by rw [HRL.out]; exact hlt), rowM_eq (by rw [HRL.out]; exact hlt)]; rfl
      have HCL := Lib.hid (clone_any rfl (HRB.out i hlt) (hrr.ex (HX3.out.trans hx)) hnil)
      have HSN : Hid (∀ (w4 : World) (a4 : Option Addr) (c4 : Nat), Ex wr w4 → Reads w4 .u8 a4 (rowM R i) → (rowM R i).length ≤ c4 → c4 ≤ maxLen → (a4 = none → c4 = 0) → Slcs .u8 w4 (ws ++ [.slice a4 (rowM R i).length c4]) (R.take (i + 1))) := Lib.hid fun w4 a4 c4 hx4 h1 h2 h3 h4 => by
        rw [htk]
        exact (hSl.out.ex hx4).snoc rfl h1 h2 h3 h4
      have HWL := Lib.hid hwl
      have HAN : Hid (∀ (w4 : World) (a4 : Option Addr) (c4 : Nat), wr.heap.size ≤ w4.heap.size → (∀ p, a4 = some p → wr.heap.size ≤ p.block ∧ p.block < w4.heap.size) → Ap (w4.alloc (.cells #[.slice a4 (rowM R i).length c4] 22)) (ws ++ [.slice a4 (rowM R i).length c4]) _) := Lib.hid fun w4 a4 c4 h1 h2 => (hAp.out.ex (by rw [World.size_alloc]; omega)).snoc fun p hp => by
        obtain ⟨q1, q2⟩ := h2 p hp
        refine ⟨fun e2 => ?_, by rw [World.size_alloc]; omega⟩
        have := (hRow.out.lt _ e2.symm).2
        omega
      obtain ⟨L, hL⟩ : ∃ L, (rowM R i).length = L := ⟨_, rfl⟩
      rw [hL] at q1 HCL HSN HAN
      clear hc hv hrr hnil hwl htk hL
      go_wp2_with (first
        | (go_at_call 27; (with_reducible refine (HCL.out).mono ?_); rintro e w4 ⟨a4, c4, rfl, hc4, hr4, hf4, hw4⟩
           have HX4 := Lib.hid (hw4.alloc (.cells #[.slice a4 L c4] 22))
           have HX4w := Lib.hid ((hx.trans hw4).alloc (.cells #[.slice a4 L c4] 22))
           have HR4 := Lib.hid ((hRow.out.ex hw4).ex ((Ex.refl w4).alloc (.cells #[.slice a4 L c4] 22)))
           have HRR4 := Lib.hid (hr4.out.ex ((Ex.refl w4).alloc (.cells #[.slice a4 L c4] 22)))
           have c1 := cell_fresh1 w4 (.slice a4 L c4) 22)
        | (at_builtin; go_loud (refine wpList_append_value rfl _ _ 44 rfl w3.heap.size 22 _ 24 Try.underlying44 info_bytes rfl _ ws rfl HR4.out (.slice a4 L c4) rfl w4.heap.size rfl c1 (by rw [HWL.out]; unfold maxLen; omega) (by rw [HWL.out]; omega) HX4w.out.size ?_)
           intro v5 w5 hown5 hgrow5 hat5
           have HX5 := Lib.hid (HR4.out.grown HX4w.out hgrow5)
           have HR5 := Lib.hid hown5
           have HS5 := Lib.hid ((HSN.out _ a4 c4 HX4.out HRR4.out hc4.out.1 hc4.out.2.1 hc4.out.2.2).kept hgrow5 (HAN.out w4 a4 c4 hw4.size hf4.out))
           have HA5 := Lib.hid (((HAN.out w4 a4 c4 hw4.size hf4.out).moved hat5).ex hgrow5.size)
           clear hown5 hgrow5 hat5))
      go_roundg (T - (i + 1))
      case measure => have := hk.out; omega
      case rel => exact ⟨i + 1, _, _, by omega, rfl, by go_num, HR5, HS5, HA5, Lib.hid rfl, HX5.out⟩
    · obtain rfl : i = T := by omega
      have hSw := hSl.out
      rw [show R.take i = R by rw [← HRL.out]; exact List.take_length] at hSw
      have hwl : ws.length = i := by rw [hSw.1, HRL.out]
      obtain ⟨a9, c9, rfl, hr9⟩ := hRow.out.hands hwl
      have HSW := Lib.hid hSw
      have HXA := Lib.hid (HX3.out.trans hx)
      clear hSw hwl hRow hSl hAp hk hx hr3
      go_upto_region 12 with (first
        | (go_at_call 27; (with_reducible refine (HCD.out _ HXA.out).mono ?_); rintro e w6 ⟨a12, c12, rfl, _, hr12, _, hw6⟩
           have HX6 := Lib.hid (HXA.out.trans hw6))
        | (go_at_call 28; (with_reducible refine (HMU.out _ HX6.out).mono ?_); rintro e w7 ⟨a13, c13, rfl, hF13, hw7⟩
           have HX7 := Lib.hid (HX6.out.trans hw7))
        | (go_at_call 29; (with_reducible refine (HIN.out _ HX7.out).mono ?_); rintro e w8 ⟨a15, c15, rfl, hF15, hw8⟩))
      obtain ⟨xs, hxl, hxs, hxr, hxF, hxn⟩ := tabRows hF13.out
      obtain ⟨zs, hzl, hzs, hzr, hzF, hzn⟩ := tabRows hF15.out
      have s67 := hw7.size
      have s78 := hw8.size
      obtain ⟨K, hKK⟩ : ∃ K, K1 + K2 = K := ⟨_, rfl⟩
      have HFU : Hid (∀ r, r < K → Full w8 w6.heap.size w8.heap.size (nthV (xs ++ zs) r)) := Lib.hid fun r hr => by
        rw [nthV_append, hxl]
        by_cases h : r < K1
        · rw [if_pos h]; exact ((hxF r h).ys (Ys.ex hw8)).less (Nat.le_refl _) s78
        · rw [if_neg h]; exact (hzF _ (by omega)).less s67 (Nat.le_refl _)
      have HC2 := Lib.hid (concat_rows_at xs zs K1 K2 w8.heap.size K a13 a15 c13 c15 w8 rfl hxl hzl hKK (by omega) (by omega) hxs hzs (hxr.ex hw8) hzr hxn hzn)
      obtain ⟨Z, hZ⟩ : ∃ Z, xs ++ zs = Z := ⟨_, rfl⟩
      rw [hZ] at HFU HC2
      have hK24 : K ≤ 24 := by omega
      have HR9 := Lib.hid (hr9.out.ex hw6)
      have HSW6 := Lib.hid (HSW.out.ex hw6)
      have HX68 := Lib.hid (hw7.trans hw8)
      have HR12 := Lib.hid (hr12.out)
      have HS68 := Lib.hid (Nat.le_trans s67 s78)
      clear hxl hxs hxr hxF hxn hzl hzs hzr hzF hzn hF13 hF15 hZ hKK hw6 hw7 hw8 s67 s78 hr12
      go_upto_region 13 with (go_at_call 26; (with_reducible refine (HC2.out).mono ?_); rintro e w9 ⟨a64, c64, rfl, hr64, hb64, hw9⟩)
      have HX69 := Lib.hid (HX68.out.trans hw9)
      have HF9 : Hid (∀ r, r < K → Full w9 w6.heap.size w8.heap.size (nthV Z r)) := Lib.hid fun r hr => (HFU.out r hr).ys (Ys.ex hw9)
      clear hw9 HFU HC2
      go_wp2
      go_loopg [66] K (fun k v66 wr => ∃ j : Nat, j ≤ K ∧ v66 = .int .i64 (j : Int) ∧ Hid (∀ r, r < K → Full wr w6.heap.size w8.heap.size (nthV Z r)) ∧ Hid (ReadsV wr a64 K (nthV Z)) ∧ Hid (k = K - j) ∧ Ex w6 wr)
      case atStart => exact ⟨0, by omega, rfl, HF9, hr64, Lib.hid rfl, HX69.out⟩
      case round =>
        obtain ⟨j, hj, rfl, hF, hr, hk, hx⟩ := hrel
        by_cases hlt : j < K
        · rcases hr.out with h0 | ⟨G, O, rfl, hc⟩
          · omega
          have q1 := hc j hlt
          have hG := hb64.out _ rfl
          have HFJ := Lib.hid (spoil_byte (hF.out j hlt))
          have HCC := Lib.hid hc
          have HGG : Hid (w8.heap.size ≤ G) := Lib.hid hG
          obtain ⟨V, hV⟩ : ∃ V, nthV Z j = V := ⟨_, rfl⟩
          rw [hV] at q1 HFJ
          clear hc hG hV
          go_wp2_with (go_at_call 30; (with_reducible refine (HFJ.out).mono ?_); rintro e w10 ⟨rfl, hE, hY, hO⟩)
          go_roundg (K - (j + 1))
          case measure => have := hk.out; omega
          case rel => exact ⟨j + 1, by omega, by go_num, Lib.hid fun r hr2 => (hF.out r hr2).ys hY.out, Lib.hid (.inr ⟨G, O, rfl, fun r hr2 => hO.out _ _ HGG.out (HCC.out r hr2)⟩), Lib.hid rfl, hE.out _ hx (Nat.le_refl _)⟩
        · obtain rfl : j = K := by omega
          have HXB := Lib.hid (HX6.out.trans hx)
          have HR9b := Lib.hid (HR9.out.ex hx)
          have HSWb := Lib.hid (HSW6.out.ex hx)
          have HR12b := Lib.hid (HR12.out.ex hx)
          rename World => wB
          clear hF hr hk hb64 hr64 HF9 HR9 HSW6 HSW HR12 hx
          go_upto_region 18 with (go_at_call 13; (with_reducible refine (HPU.out _ HXB.out).mono ?_); rintro e w11 ⟨a19, c19, rfl, hP19, hw11⟩)
          have HSP : Hid (Calls Try.prog 30 #[.slice a19 K3 c19, .int .u8 77] w11 (fun e w12 => e = .returned (.tuple #[]) ∧ Ex wB w12)) := Lib.hid (by
            rcases hP19.out with ⟨_, h1, h2, h3⟩ | ⟨_, _, _, hF, _⟩
            · rw [h1, h2, h3]
              refine (spoil_none w11).mono ?_
              rintro e w12 ⟨rfl, rfl⟩
              exact ⟨rfl, hw11⟩
            · refine (spoil_byte hF).mono ?_
              rintro e w12 ⟨rfl, hE, _, _⟩
              exact ⟨rfl, hE.out _ hw11 (Nat.le_refl _)⟩)
          clear hP19 hw11
          go_upto_region 21 with (first
            | (go_at_call 30; (with_reducible refine (HSP.out).mono ?_); rintro e w12 ⟨rfl, hw12⟩
               have HX12 := Lib.hid (HXB.out.trans hw12))
            | (go_at_call 28; (with_reducible refine (HMU.out _ HX12.out).mono ?_); rintro e w13 ⟨a21, c21, rfl, _, hw13⟩
               have HX13 := Lib.hid (HX12.out.trans hw13))
            | (go_at_call 26; (with_reducible refine (HCO.out _ HX13.out).mono ?_); rintro e w14 ⟨a90, c90, rfl, hr90, _, hw14⟩))
          have HXC := Lib.hid (HX13.out.trans hw14)
          have HXBC := Lib.hid ((hw12.trans hw13).trans hw14)
          have HR9c := Lib.hid (HR9b.out.ex HXBC.out)
          have HSWc := Lib.hid (HSWb.out.ex HXBC.out)
          have HR12c := Lib.hid (HR12b.out.ex HXBC.out)
          have HX0c := Lib.hid (Ex.refl w14)
          clear HR9b HSWb HR12b hw12 hw13 hw14 HX12 HX13 HSP
          go_wp2
          go_loopg [92] i (fun k v92 wr => ∃ t : Nat, t ≤ i ∧ v92 = .int .i64 (t : Int) ∧ Hid (k = i - t) ∧ Ex w14 wr)
          case atStart => exact ⟨0, by omega, rfl, Lib.hid rfl, HX0c.out⟩
          case round =>
            obtain ⟨t, ht, rfl, hk, hx⟩ := hrel
            rename World => wQ
            by_cases hlt : t < i
            · rcases hr90.out with h0 | ⟨g, o, rfl, hc⟩
              · omega
              rcases HR9c.out with h0 | ⟨g9, o9, rfl, hc9⟩
              · omega
              have q1 := hx.cell (hc t hlt)
              have q2 := hx.cell (hc9 t hlt)
              obtain ⟨ar, c, hv, hrr, _⟩ := HRO.out t hlt
              obtain ⟨aw, cs, hs, hrs, _⟩ := HSWc.out.2 t (by rw [HRL.out]; exact hlt)
              rw [hv] at q1
              rw [hs] at q2
              have hLb := HRB.out t hlt
              have HEQ : Hid (Calls Try.prog 15 #[.slice ar (rowM R t).length c, .slice aw (rowM R t).length cs] wQ (Says (.bool true) wQ)) := Lib.hid (bytes_equal (rowM R t) (rowM R t) ar aw c cs wQ (by unfold maxLen; omega) (by unfold maxLen; omega) (hrr.ex (HXC.out.trans hx)) (hrs.ex hx) true (by simp))
              obtain ⟨L, hL⟩ : ∃ L, (rowM R t).length = L := ⟨_, rfl⟩
              rw [hL] at q1 q2 HEQ
              clear hc hc9 hv hs hrr hrs hL hLb
              go_wp2_with (go_at_call 15; (with_reducible refine (HEQ.out).mono ?_); rintro e w15 ⟨rfl, hw15⟩)
              go_roundg (i - (t + 1))
              case measure => have := hk.out; omega
              case rel => exact ⟨t + 1, by omega, by go_num, Lib.hid rfl, hx.trans hw15⟩
            · obtain rfl : t = i := by omega
              have HXD := Lib.hid (HXC.out.trans hx)
              have HRY2 := Lib.hid (HR12c.out.ex hx)
              have HEY : Hid (∀ (w2 : World) (a2 b2 : Option Addr) (c2 d2 : Nat), Reads w2 .u8 a2 y → Reads w2 .u8 b2 y → Calls Try.prog 15 #[.slice a2 ld c2, .slice b2 ld d2] w2 (Says (.bool true) w2)) := Lib.hid fun w2 a2 b2 c2 d2 h1 h2 => by
                have := bytes_equal y y a2 b2 c2 d2 w2 (by rw [HDL.out]; unfold maxLen; omega) (by rw [HDL.out]; unfold maxLen; omega) h1 h2 true (by simp)
                rw [HDL.out] at this
                exact this
              clear HR9c HSWc HR12c hx hk hr90
              go_upto_region 27 with (go_at_call 13; (with_reducible refine (HPU.out _ HXD.out).mono ?_); rintro e w16 ⟨a25, c25, rfl, hP25, hw16⟩)
              have HXE := Lib.hid (HXD.out.trans hw16)
              have HRY3 := Lib.hid (HRY2.out.ex hw16)
              have HRYd := Lib.hid (HDR.out _ HXE.out)
              rcases hP25.out with ⟨h1, _, _, _⟩ | ⟨rfl, h2, h3, _, h5⟩
              · have g1 : (e3 != 0) = true := by simpa using h1
                clear hP25 hw16
                go_wp2_with (go_at_call 15; (with_reducible refine (HEY.out _ _ _ _ _ HRYd.out HRY3.out).mono ?_); rintro e w17 ⟨rfl, hw17⟩)
                go_ret
                exact ⟨by first | rfl | simp, HXE.out.trans hw17⟩
              · have hif : (if (ld : Int) < (K3 : Int) then (ld : Int) else (K3 : Int)) = (ld : Int) := by split <;> omega
                have hif2 : (if ld < K3 then (ld : Int) else (K3 : Int)) = (ld : Int) := by split <;> omega
                have H5 := Lib.hid h5
                clear hP25 hw16 h5
                go_wp2_with (first
                  | (go_at_call 15; (with_reducible refine (HEY.out _ _ _ _ _ HRYd.out HRY3.out).mono ?_); rintro e w17 ⟨rfl, hw17⟩
                     have H5b := Lib.hid (H5.out.ex hw17)
                     have HRYe := Lib.hid (HRYd.out.ex hw17)
                     clear HRY3)
                  | (go_at_call 15; (with_reducible refine (HEY.out _ _ _ _ _ H5b.out HRYe.out).mono ?_); rintro e w18 ⟨rfl, hw18⟩))
                go_ret
                exact ⟨by first | rfl | simp, (HXE.out.trans hw17).trans hw18⟩

end Go.Proofs.Ythlnbomapfjphaa
