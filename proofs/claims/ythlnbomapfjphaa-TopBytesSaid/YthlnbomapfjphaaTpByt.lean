/-
  TopBytes, by contracts.
-/
import Derived.Test.YthlnbomapfjphaaTpBase
import Derived.Test.YthlnbomapfjphaaTpStr
import Derived.Test.YthlnbomapfjphaaGdD
import Derived.Test.YthlnbomapfjphaaMatD
import Derived.Test.YthlnbomapfjphaaGfw
import Derived.Test.YthlnbomapfjphaaGpv
import Derived.Test.YthlnbomapfjphaaGtb
import Derived.Deep.CutRange
import Derived.Deep.DeepCutAuto
import Derived.BigQuiet
namespace Go.Proofs.Ythlnbomapfjphaa
open Go.RowKit
open Gf

theorem IsInts.take {k : IntKind} {B : Nat} {w : World} {a : Option Addr} {len cap : Nat} {z : List Int} (h : IsInts k B w a len cap z) {n : Nat} (hn : n ≤ len) : IsInts k B w a n cap (z.take n) := by
  obtain ⟨h1, h2, h3, h4, h5, h6⟩ := h
  exact ⟨by rw [List.length_take]; omega, by omega, h3, h4.take n, h5, fun x hx => h6 x (List.mem_of_mem_take hx)⟩
theorem nth_take {z : List Int} {n i : Nat} (hi : i < n) : nth (z.take n) i = nth z i := by
  unfold nth
  rw [List.getD_eq_getElem?_getD, List.getD_eq_getElem?_getD, List.getElem?_take, if_pos hi]
/-- A column undone. -/
theorem undo_col {A B : Nat → Nat → E} {n : Nat} (h : InvOf A B n) (V : Nat → E) {r k : Nat} (hr : r < n) : mm B (mm A (fun r _ => V r) n) n r k = V r := by
  rw [← mm_assoc]
  have e : mm (mm B A n) (fun r _ => V r) n r k = mm un (fun r _ => V r) n r k := mm_congr (fun j hj => h.2 r hr j hj) (fun _ _ => rfl)
  rw [e, un_mm _ hr]

theorem col_next {V : Nat → E} {i : Nat} {X : E} (h : V i = X) (r k : Nat) : (fun r k => if r = i then (fun _ : Nat => X) k else (fun (r : Nat) (_ : Nat) => V r) r k) r k = (fun (r : Nat) (_ : Nat) => V r) r k := by
  dsimp only
  by_cases e : r = i
  · rw [if_pos e, e, h]
  · rw [if_neg e]

set_option maxRecDepth 100000 in
set_option maxHeartbeats 4000000 in
theorem topBytes_of (HP : RePutC) (HX : CrossC) (HM : MulC) (HI : InvC) (a : Option Addr) (la ca : Nat) (y : List Int) (b : Option Addr) (lb cb : Nat) (z : List Int) (c : Option Addr) (lc cc : Nat) (v : List Int) (w : World)
    (ha : IsInts .u8 1 w a la ca y) (hb : IsInts .u8 1 w b lb cb z) (hc : IsInts .u8 1 w c lc cc v) :
    Calls Try.prog 12 #[.slice a la ca, .slice b lb cb, .slice c lc cc] w (Says (.bool true) w) := by
  have HY := Lib.hid fun w => works_yes HP w
  obtain ⟨n, hn⟩ : ∃ n, min la (min lb lc) = n := ⟨_, rfl⟩
  obtain ⟨n1, n2, n3⟩ : n ≤ la ∧ n ≤ lb ∧ n ≤ lc := by omega
  have hcap1 := ha.2.1
  have hcap2 := hb.2.1
  have hcap3 := hc.2.1
  have HA := Lib.hid (ha.take n1)
  have HB := Lib.hid (hb.take n2)
  have HC := Lib.hid (hc.take n3)
  clear ha hb hc
  go_enter Try.func12, Try.ntmps12
  go_upto_region 3 with (go_at_call 32; (with_reducible refine (HY.out _).mono ?_); rintro e w1 ⟨rfl, hw1⟩)
  go_cut [7] (fun v7 wx => v7 = .int .i64 (n : Int) ∧ w1 = wx)
  case first =>
    by_cases h1 : lb < la
    · by_cases h2 : lc < lb
      · go_wp2
        go_meet
        exact ⟨by first | rfl | (congr 1; omega) | (simp; omega), rfl⟩
      · go_wp2
        go_meet
        exact ⟨by first | rfl | (congr 1; omega) | (simp; omega), rfl⟩
    · by_cases h2 : lc < la
      · go_wp2
        go_meet
        exact ⟨by first | rfl | (congr 1; omega) | (simp; omega), rfl⟩
      · go_wp2
        go_meet
        exact ⟨by first | rfl | (congr 1; omega) | (simp; omega), rfl⟩
  case rest =>
  obtain ⟨rfl, rfl⟩ := hcut
  have HX1 := Lib.hid hw1
  haveI : Nonempty (Kp (Ex w1)) := ⟨⟨w1, Ex.refl w1⟩⟩
  have hT0 := (Ex.refl w1).drew
  by_cases h0 : crE (y.take n) (z.take n) = 0
  · obtain ⟨u1, u2, hdis⟩ := crE_zero.mp h0
    obtain ⟨l1, l12, nd1⟩ := unE_zero.mp u1
    obtain ⟨_, _, nd2⟩ := unE_zero.mp u2
    have hyl := HA.out.1
    have hzl := HB.out.1
    have hvl := HC.out.1
    rw [hyl] at l1 l12
    have hu := HA.out.unlike nd1
    have hg := HB.out.unlike nd2
    have hd : ∀ i k, i < n → k < n → rwb (y.take n) i ≠ rwb (z.take n) k := fun i k hi hk e => by
      have e1 := HA.out.rwb_v (i := i) (by omega)
      have e2 := HB.out.rwb_v (i := k) (by omega)
      rw [e] at e1
      have e3 : nth (y.take n) i = nth (z.take n) k := by rw [← e1, ← e2]
      exact hdis _ (nth_mem (xs := z.take n) (i := k) (by omega)) (e3 ▸ nth_mem (xs := y.take n) (i := i) (by omega))
    have hFr := HA.out.vec l1
    have hHr := HB.out.vec l1
    have hVr := HC.out.vec l1
    have c1 : ca ≤ 140737488351232 := by have := HA.out.2.2.1; omega
    have c2 : cb ≤ 140737488351232 := by have := HB.out.2.2.1; omega
    obtain ⟨F, hF⟩ : ∃ F, rwb (y.take n) = F := ⟨_, rfl⟩
    obtain ⟨H, hH⟩ : ∃ H, rwb (z.take n) = H := ⟨_, rfl⟩
    obtain ⟨V, hV⟩ : ∃ V, rwb (v.take n) = V := ⟨_, rfl⟩
    rw [hF] at hu hd hFr
    rw [hH] at hg hd hHr
    rw [hV] at hVr
    have hdet : det (fun r k => (F r + H k).inv) n ≠ 0 := cauchy_not hu hg hd
    obtain ⟨BI, hBI⟩ := inv_some hdet
    have HXO := Lib.hid fun w2 (k : Ex w1 w2) => HX.ok (ca := ca) (cb := cb) l1 l12 (by omega) c1 l1 l12 (by omega) c2 hu hg hd (hFr.ex (hw1.trans k)) (hHr.ex (hw1.trans k))
    obtain ⟨CM, hCM⟩ : ∃ CM : Nat → Nat → E, (fun r k => (F r + H k).inv) = CM := ⟨_, rfl⟩
    rw [hCM] at HXO hBI
    have HIO := Lib.hid fun w2 a2 c2 (h : ReadsT w2 a2 n n CM) => HI.ok (ca := c2) l1 l12 h hBI
    have HM1 := Lib.hid fun w2 a2 b2 c2 d2 (h : ReadsT w2 a2 n n CM) (k : ReadsT w2 b2 n 1 (fun r _ => V r)) => HM.ok (ca := c2) (cb := d2) l1 l12 l1 l12 (by omega) (by omega) h k
    have HM2 := Lib.hid fun w2 a2 b2 c2 d2 (h : ReadsT w2 a2 n n BI) (k : ReadsT w2 b2 n 1 (mm CM (fun r _ => V r) n)) => HM.ok (ca := c2) (cb := d2) l1 l12 l1 l12 (by omega) (by omega) h k
    have HUN : Hid (∀ r, r < n → ∀ k, k < 1 → mm BI (mm CM (fun r _ => V r) n) n r k = V r) := Lib.hid fun r hr k _ => undo_col hBI V hr
    have HVC : Hid (∀ i, i < n → ∃ g o, c = some ⟨g, o, none⟩ ∧ w1.cell? ⟨g, o + i, none⟩ = some (.int .u8 (((V i).v : Nat) : Int))) := Lib.hid fun i hi => by
      obtain ⟨g, o, h1, h2⟩ := hVr
      exact ⟨g, o, h1, hw1.cell (h2 i hi)⟩
    have HAC : Hid (ReadsF w1 a n F) := Lib.hid (hFr.ex hw1)
    have HBC : Hid (ReadsF w1 b n H) := Lib.hid (hHr.ex hw1)
    have HD := Lib.hid hd
    clear h0 u1 u2 hdis nd1 nd2 hyl hzl hvl hu hg hd hFr hHr hVr c1 c2 hF hH hV hdet hBI hCM HX HM HI hw1
    go_upto_region 4 with fail
    go_cut [8, 9] (fun v8 v9 wx => ∃ a2 c2, v8 = .slice a2 n c2 ∧ v9 = .int .i64 0 ∧ Hid (ReadsT wx a2 n n CM) ∧ Ex w1 wx)
    case first =>
      refine wp_region_scr (fun w2 => ∃ x : Kp (Ex w1), w2 = x.val) (.take 0 (.take 1 (.take 3 (.take 4 (.two 2 (.one 5 (.one 6 (.take 7 (.take 8 (.take 9 (.take 10 (.take 11 (.fin)))))))) 5 (.one 2 (.one 6 (.take 7 (.take 8 (.take 9 (.take 10 (.take 11 (.fin))))))))))))) (by kernel_rfl) (by kernel_rfl) (by intro _ _ d _ _ h; cases d <;> exact h) ⟨⟨_, (by first | exact hT1 | exact hT0)⟩, rfl⟩ ?_
      generalize w1.drew = wd at hT0 ⊢
      simp only [fillS, List.getD_cons_zero, List.getD_cons_succ]
      repeat' (first
        | ((with_reducible refine wpScr_pure ?_); go_big_quiet_step (fail); (with_reducible refine scrQ_on ?_))
        | ((with_reducible refine wpScr_turn ?_); intro K hK; go_wp2_with (first | fail |(go_at_call 48; (with_reducible refine (HXO.out _ hT0).mono ?_); rintro e w8 ⟨a8, c8, rfl, hc8, hR8, hw8⟩; have hT1 := hT0.trans hw8)); refine hK _ _ ⟨⟨_, (by first | exact hT1 | exact hT0)⟩, rfl⟩ ?_; clear hK K)
        | (with_reducible refine wpScr_two ?_ ?_)
        | (with_reducible refine wpScr_three ?_ ?_ ?_)
        | (with_reducible refine wpScr_nil ?_))
      all_goals
        go_wp2
        go_meet
        exact ⟨_, _, rfl, rfl, hR8, hT1⟩
    case rest =>
    obtain ⟨am, cm, rfl, rfl, hRM, hxm⟩ := hcut
    rename World => w4
    clear hT0 HXO
    have HLG : Hid (∀ x : E, x.v ≠ 0 → ∃ l : Nat, l < 255 ∧ (∀ w, Calls Try.prog 49 #[.int .u8 ((x.v : Nat) : Int)] w (Says (.tuple #[.int .i64 (l : Int), .int .i64 0]) w)) ∧ ∀ w, Calls Try.prog 50 #[.int .u8 2, .int .i64 (l : Int)] w (Says (.tuple #[.int .u8 ((x.v : Nat) : Int), .int .i64 0]) w)) := Lib.hid fun x hx => by
      obtain ⟨l, h1, h2, h3⟩ := log_some x.lt hx
      refine ⟨l, h1, fun w => flog_ok x.v l w x.lt hx h1 h2 h3, fun w => ?_⟩
      have := fpow_ok 2 l w (by decide) (by omega)
      rw [h2] at this
      exact this
    have HL0 := Lib.hid flog_no
    have HP0 : Hid (∀ w, Calls Try.prog 50 #[.int .u8 2, .int .i64 0] w (Says (.tuple #[.int .u8 1, .int .i64 0]) w)) := Lib.hid fun w => fpow_ok 2 0 w (by decide) (by omega)
    go_wp2
    go_loopg [10, 52] n (fun k v10 v52 wr => ∃ (i : Nat) (v : Value), i ≤ n ∧ v10 = v ∧ v52 = .int .i64 (i : Int) ∧ Hid (OwnT 22 wr w4.heap.size v 1 i (fun r _ => V r)) ∧ Hid (k = n - i) ∧ Ex w4 wr)
    case atStart => exact ⟨0, _, by omega, rfl, rfl, Lib.hid (OwnT.nil _ _ _ _ _), Lib.hid rfl, Ex.refl _⟩
    case round =>
      obtain ⟨i, v, hi, rfl, rfl, hRow, hk, hx⟩ := hrel
      by_cases hlt : i < n
      · obtain ⟨g, o, rfl, hci⟩ := HVC.out i hlt
        have q1 := hx.cell (hxm.cell hci)
        obtain ⟨X, hX⟩ : ∃ X, V i = X := ⟨_, rfl⟩
        rw [hX] at q1
        have hXl := X.lt
        have HXV := Lib.hid hX
        clear hci hX
        have HRW : Hid (Row 5 .u8 ((wr.alloc (.cells #[.int .u8 ((X.v : Nat) : Int)] 5)).alloc (.cells #[.slice (some ⟨wr.heap.size, 0, none⟩) 1 1] 22)) wr.heap.size (.slice (some ⟨wr.heap.size, 0, none⟩) 1 1) (bl (fun _ => X) 1)) := Lib.hid ((row_new 5 .u8 wr wr.heap.size (Nat.le_refl _) [((X.v : Nat) : Int)] #[.int .u8 ((X.v : Nat) : Int)] rfl (by unfold maxLen; simp)).ex ((Ex.refl _).alloc _))
        have HXa : Hid (Ex wr ((wr.alloc (.cells #[.int .u8 ((X.v : Nat) : Int)] 5)).alloc (.cells #[.slice (some ⟨wr.heap.size, 0, none⟩) 1 1] 22))) := Lib.hid (((Ex.refl wr).alloc _).alloc _)
        have HCB : Hid (((wr.alloc (.cells #[.int .u8 ((X.v : Nat) : Int)] 5)).alloc (.cells #[.slice (some ⟨wr.heap.size, 0, none⟩) 1 1] 22)).cell? ⟨wr.heap.size + 1, 0, none⟩ = some (.slice (some ⟨wr.heap.size, 0, none⟩) 1 1)) := Lib.hid (by
          simp)
        go_upto_region 12 with (at_builtin; go_loud (refine wpList_append_row rfl _ _ 44 rfl w4.heap.size 22 Try.underlying44 info_bytes _ rfl hRow.out HXa.out HRW.out (by omega) hx.size (wr.heap.size + 1) rfl HCB.out (by omega) ?_)
                                intro v1 w5 hown5 hgrow5
                                go_loud (have HX5 := Lib.hid ((hRow.out.ex HXa.out).grown (hx.trans HXa.out) hgrow5))
                                go_loud (have HR5 : Hid (OwnT 22 w5 w4.heap.size v1 1 (i + 1) (fun r _ => V r)) := Lib.hid (hown5.congr fun r _ k _ => col_next HXV.out r k))
                                clear hown5 hgrow5)
        by_cases hx0 : X.v = 0
        · rw [hx0] at q1 ⊢
          go_wp2_with (first
            | (go_at_call 49; (with_reducible refine (HL0.out _).mono ?_); rintro e w6 ⟨rfl, hw6⟩)
            | (go_at_call 50; (with_reducible refine (HP0.out _).mono ?_); rintro e w7 ⟨rfl, hw7⟩))
          have HX7 := Lib.hid ((HX5.out.trans hw6).trans hw7)
          have HR7 := Lib.hid ((HR5.out.ex hw6).ex hw7)
          go_roundg (n - (i + 1))
          case measure => have := hk.out; omega
          case rel => exact ⟨i + 1, _, by omega, rfl, by go_num, HR7, Lib.hid rfl, HX7.out⟩
        · obtain ⟨l, l255, hlog, hpow⟩ := HLG.out X hx0
          have HLO := Lib.hid hlog
          have HPW := Lib.hid hpow
          have z1 : ((((X.v : Nat) : Int)) == 0) = false := beq_eq_false_iff_ne.mpr (by omega)
          have z2 : ((((X.v : Nat) : Int)) != 0) = true := by simpa using hx0
          clear hlog hpow
          go_wp2_with (first
            | (go_at_call 49; (with_reducible refine (HLO.out _).mono ?_); rintro e w6 ⟨rfl, hw6⟩)
            | (go_at_call 50; (with_reducible refine (HPW.out _).mono ?_); rintro e w7 ⟨rfl, hw7⟩)
            | (go_at_call 35; refine (tgood_zeros 2 (by omega) _ rfl _ _).mono ?_; rintro e w8 ⟨rfl, hw8⟩))
          have HX7 := Lib.hid (((HX5.out.trans hw6).trans hw7).trans hw8)
          have HR7 := Lib.hid (((HR5.out.ex hw6).ex hw7).ex hw8)
          go_roundg (n - (i + 1))
          case measure => have := hk.out; omega
          case rel => exact ⟨i + 1, _, by omega, rfl, by go_num, HR7, Lib.hid rfl, HX7.out⟩
      · obtain rfl : i = n := by omega
        obtain ⟨ac, cc2, rfl, hcc, _, hRC⟩ := hRow.out.reads l1
        have HRC := Lib.hid hRC
        have HRMx := Lib.hid (hRM.out.ex hx)
        have HXX := Lib.hid (hxm.trans hx)
        clear hRC hRow hRM hxm hx hk HLG HL0 HP0
        go_upto_region 22 with (first
          | (go_at_call 29; (with_reducible refine (HIO.out _ _ _ HRMx.out).mono ?_); rintro e w6 ⟨a6, c6, rfl, hc6, hR6, hw6⟩
             have HRM6 := Lib.hid (HRMx.out.ex hw6)
             have HRC6 := Lib.hid (HRC.out.ex hw6))
          | (go_at_call 28; (with_reducible refine (HM1.out _ _ _ _ _ HRM6.out HRC6.out).mono ?_); rintro e w7 ⟨a7, c7, rfl, hc7, hR7, hw7⟩
             have HR67 := Lib.hid (hR6.out.ex hw7)
             clear HM1)
          | (go_at_call 28; (with_reducible refine (HM2.out _ _ _ _ _ HR67.out hR7.out).mono ?_); rintro e w8 ⟨a8, c8, rfl, hc8, hR8, hw8⟩)
          | (go_at_call 35; refine (tgood_zeros 3 (by omega) _ rfl _ _).mono ?_; rintro e w9 ⟨rfl, hw9⟩))
        have HX9 := Lib.hid (((HXX.out.trans ((hw6.trans hw7).trans hw8))).trans hw9)
        have HZ := Lib.hid ((hR8.out.congr HUN.out).ex hw9)
        clear hR6 hR7 hR8 HRM6 HRC6 HR67 HXX HRMx HRC hw6 hw7 hw8 hw9
        obtain ⟨bz, oz, rfl, hcz⟩ := HZ.out
        have HCZ := Lib.hid hcz
        clear hcz HZ
        go_wp2
        go_loopg [125] i (fun k v125 wr => ∃ j : Nat, j ≤ i ∧ v125 = .int .i64 (j : Int) ∧ Hid (k = i - j) ∧ Ex w9 wr)
        case atStart => exact ⟨0, by omega, rfl, Lib.hid rfl, Ex.refl _⟩
        case round =>
          obtain ⟨j, hj, rfl, hk, hx⟩ := hrel
          rename World => wq
          by_cases hjt : j < i
          · obtain ⟨br, or_, cr, k1, k2, k3, k4⟩ := HCZ.out j hjt
            obtain ⟨gv, ov, rfl, hcv⟩ := HVC.out j hjt
            have k5 := k4 0 (by omega)
            rw [Nat.add_zero] at k5
            have hv := V j |>.lt
            obtain ⟨X, hX⟩ : ∃ X, (V j).v = X := ⟨_, rfl⟩
            rw [hX] at k5 hcv hv
            have m1 := cell_wo (hx.cell k1)
            have m2 := cell_wo (hx.cell k5)
            have m3 := cell_wo (hx.cell (HX9.out.cell hcv))
            clear k1 k4 k5 hcv hX
            go_wp2
            refine wp_region_wo (by kernel_rfl) (by kernel_rfl) ?_
            repeat (go_big_quiet_step (fail))
            refine wpQuiet_nil ?_
            rintro _ ⟨⟨w10, hw10⟩, rfl⟩
            go_wp2
            go_roundg (i - (j + 1))
            case measure => have := hk.out; omega
            case rel => exact ⟨j + 1, by omega, by go_num, Lib.hid rfl, hx.trans hw10⟩
          · clear HVC HCZ hk
            obtain ⟨ga, oa, rfl, hca⟩ := HAC.out
            obtain ⟨gb, ob, rfl, hcb⟩ := HBC.out
            have HCA : ∀ x : Kp (Ex wq), (convert 22 9 (.slice (some ⟨ga, oa, none⟩) i ca)).run Try.prog x.val = .ok (.string (byt F i)) x.val := fun x => conv_row fun t ht => (HX9.out.trans (hx.trans x.ok)).cell (hca t ht)
            have HCB : ∀ x : Kp (Ex wq), (convert 22 9 (.slice (some ⟨gb, ob, none⟩) 1 cb)).run Try.prog x.val = .ok (.string (byt H 1)) x.val := fun x => conv_row fun t ht => (HX9.out.trans (hx.trans x.ok)).cell (hcb t (by omega))
            have HNO : Hid (∀ w, Calls Try.prog 51 #[.string (byt F i), .string (byt H 1)] w (Says (.bool false) w)) := Lib.hid fun w => contains_no (byt F i) (UInt8.ofNat (H 0).v) w fun hm => by
              obtain ⟨r, hr, e⟩ := List.mem_map.mp (show UInt8.ofNat (H 0).v ∈ (List.range i).map fun j => UInt8.ofNat (F j).v from hm)
              have e2 := byte_nat (F r)
              have e3 := byte_nat (H 0)
              rw [e] at e2
              exact HD.out r 0 (List.mem_range.mp hr) (by omega) (E.ext (by omega))
            generalize byt F i = tA at HCA HNO
            generalize byt H 1 = tB at HCB HNO
            have HXW := Lib.hid (HX1.out.trans (HX9.out.trans hx))
            haveI : Nonempty (Kp (Ex wq)) := ⟨⟨wq, Ex.refl wq⟩⟩
            have hT0 := (Ex.refl wq).drew
            clear hca hcb HD hx HX9
            go_wp2
            refine wp_region_scr (fun w2 => ∃ x : Kp (Ex wq), w2 = x.val) (.take 0 (.take 1 (.take 4 (.two 2 (.take 3 (.one 5 (.take 6 (.one 7 (.take 8 (.take 9 (.fin))))))) 5 (.take 6 (.one 2 (.take 3 (.one 7 (.take 8 (.take 9 (.fin))))))))))) (by kernel_rfl) (by kernel_rfl) (by intro _ _ d _ _ h; cases d <;> exact h) ⟨⟨_, (by first | exact hT1 | exact hT0)⟩, rfl⟩ ?_
            generalize wq.drew = wd at hT0 ⊢
            simp only [fillS, List.getD_cons_zero, List.getD_cons_succ]
            repeat' (first
              | ((with_reducible refine wpScr_pure ?_); go_big_quiet_step (fail); (with_reducible refine scrQ_on ?_))
              | ((with_reducible refine wpScr_turn ?_); intro K hK; go_wp2_with (first | fail |(go_at_call 51; (with_reducible refine (HNO.out _).mono ?_); rintro e w11 ⟨rfl, hw11⟩; have hT1 := hT0.trans hw11)); refine hK _ _ ⟨⟨_, (by first | exact hT1 | exact hT0)⟩, rfl⟩ ?_; clear hK K)
              | (with_reducible refine wpScr_two ?_ ?_)
              | (with_reducible refine wpScr_three ?_ ?_ ?_)
              | (with_reducible refine wpScr_nil ?_))
            all_goals
              go_wp2
              go_ret
              exact ⟨rfl, HXW.out.trans hT1⟩
  · have HXN := Lib.hid fun w2 (k : Ex w1 w2) => HX.no (HA.out.ex (hw1.trans k)) (HB.out.ex (hw1.trans k)) h0
    obtain ⟨er, her⟩ : ∃ er, crE (y.take n) (z.take n) = er := ⟨_, rfl⟩
    rw [her] at HXN h0
    have q1 : (er != 0) = true := by simpa using h0
    clear her h0 hw1
    go_wp2
    refine wp_region_scr (fun w2 => ∃ x : Kp (Ex w1), w2 = x.val) (.take 0 (.take 1 (.take 3 (.take 4 (.two 2 (.one 5 (.one 6 (.take 7 (.take 8 (.take 9 (.take 10 (.take 11 (.fin)))))))) 5 (.one 2 (.one 6 (.take 7 (.take 8 (.take 9 (.take 10 (.take 11 (.fin))))))))))))) (by kernel_rfl) (by kernel_rfl) (by intro _ _ d _ _ h; cases d <;> exact h) ⟨⟨_, (by first | exact hT1 | exact hT0)⟩, rfl⟩ ?_
    generalize w1.drew = wd at hT0 ⊢
    simp only [fillS, List.getD_cons_zero, List.getD_cons_succ]
    repeat' (first
      | ((with_reducible refine wpScr_pure ?_); go_big_quiet_step (fail); (with_reducible refine scrQ_on ?_))
      | ((with_reducible refine wpScr_turn ?_); intro K hK; go_wp2_with (first | fail |(go_at_call 48; (with_reducible refine (HXN.out _ hT0).mono ?_); rintro e w8 ⟨a8, c8, rfl, hw8⟩; have hT1 := hT0.trans hw8)); refine hK _ _ ⟨⟨_, (by first | exact hT1 | exact hT0)⟩, rfl⟩ ?_; clear hK K)
      | (with_reducible refine wpScr_two ?_ ?_)
      | (with_reducible refine wpScr_three ?_ ?_ ?_)
      | (with_reducible refine wpScr_nil ?_))
    all_goals
      go_wp2
      go_ret
      exact ⟨by first | rfl | simp, HX1.out.trans hT1⟩

end Go.Proofs.Ythlnbomapfjphaa
