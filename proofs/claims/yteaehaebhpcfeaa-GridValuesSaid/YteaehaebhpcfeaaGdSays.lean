/-
  GridSays, walked.
-/
import Derived.Test.YteaehaebhpcfeaaGdSa
import Derived.Deep.CutRange
import Derived.Deep.DeepCutAuto
namespace Go.Proofs.Yteaehaebhpcfeaa
open Go.RowKit
open Gf

set_option maxRecDepth 100000 in
set_option maxHeartbeats 4000000 in
theorem gridSays_of (HP : PowersC) (HC : CrossC) (a : Option Addr) (la ca : Nat) (y : List Int) (b : Option Addr) (lb cb : Nat) (z : List Int) (n : Int) (w : World) (ha : IsInts .u8 1 w a la ca y) (hb : IsInts .u8 1 w b lb cb z) (hn : I64 n) :
    Calls Try.prog 3 #[.slice a la ca, .slice b lb cb, .int .i64 n] w (Says (.bool true) w) := by
  have HXA := Lib.hid ((Ex.refl w).alloc (.cells #[.slice a la ca] 22))
  have cb0 := cell_fresh1 w (.slice a la ca) 22
  have HPW := Lib.hid fun w2 (k : Ex w w2) => pow_in HP (ha.ex k) (wf_of hn)
  have HCW := Lib.hid fun w2 (k : Ex w w2) => cross_in HC (ha.ex k) (hb.ex k)
  have HUA := Lib.hid fun w2 (k : Ex w w2) => unlike_any (ha.ex k)
  have HUB := Lib.hid fun w2 (k : Ex w w2) => unlike_any (hb.ex k)
  have t5 := ha.2.1
  have t6 := ha.2.2.1
  have t7 := hb.2.1
  have t8 := hb.2.2.1
  by_cases hU : unE y = 0
  · obtain ⟨u1, u2, u3⟩ := unE_zero.mp hU
    have hl := ha.1
    obtain ⟨bA, oA, rfl, hA⟩ := ha.vec (by omega)
    have HA := Lib.hid hA
    have HVB : Hid (unE z = 0 → 1 ≤ lb ∧ lb ≤ 12 ∧ ReadsF w b lb (rwb z)) := Lib.hid fun h => by
      obtain ⟨g1, g2, _⟩ := unE_zero.mp h
      have := hb.1
      exact ⟨by omega, by omega, hb.vec (by omega)⟩
    obtain ⟨bn, hn1, hn2⟩ : ∃ bn : Bool, (bn = true → n < 1 ∨ 12 < n) ∧ (bn = false → 1 ≤ n ∧ n ≤ 12) := by
      by_cases h : n < 1 ∨ 12 < n
      · exact ⟨true, fun _ => h, fun h => (by cases h)⟩
      · exact ⟨false, fun h => (by cases h), fun _ => by omega⟩
    have HN1 := Lib.hid hn1
    have HN2 := Lib.hid hn2
    have HPE : Hid ((bn = true → powE y n = 1) ∧ (bn = false → powE y n = 0)) := Lib.hid ⟨fun h => by unfold powE; rw [if_neg (by simpa using hU), if_pos (hn1 h)], fun h => powE_zero.mpr ⟨hU, hn2 h⟩⟩
    obtain ⟨P1, hP1⟩ : ∃ P1, powE y n = P1 := ⟨_, rfl⟩
    obtain ⟨C1, hC1⟩ : ∃ C1, crE y z = C1 := ⟨_, rfl⟩
    obtain ⟨U2, hU2⟩ : ∃ U2, unE z = U2 := ⟨_, rfl⟩
    obtain ⟨bc, hbc⟩ : ∃ bc : Bool, bc = true ↔ ∃ x ∈ z, x ∈ y := by
      by_cases h : ∃ x ∈ z, x ∈ y
      · exact ⟨true, fun _ => h, fun _ => rfl⟩
      · exact ⟨false, fun h => (by cases h), fun h2 => absurd h2 h⟩
    have HCE : Hid ((U2 ≠ 0 → C1 = U2) ∧ (U2 = 0 → bc = true → C1 = 6) ∧ (U2 = 0 → bc = false → C1 = 0)) := Lib.hid (by
      rw [← hC1, ← hU2]
      unfold crE
      rw [if_neg (by simpa using hU)]
      refine ⟨fun h => if_pos h, fun h h2 => ?_, fun h h2 => ?_⟩
      · rw [if_neg (by simpa using h), if_pos (hbc.mp h2)]
      · rw [if_neg (by simpa using h), if_neg fun h3 => by rw [hbc.mpr h3] at h2; cases h2])
    rw [hP1] at HPW HPE
    rw [hC1] at HCW
    rw [hU] at HUA
    rw [hU2] at HUB HVB
    have hR := ha.2.2.2.1
    have HRA := Lib.hid hR
    have hbL := hb.1
    have hbR := hb.2.2.2.1
    have HBR := Lib.hid hbR
    have HBC := Lib.hid hbc
    have HBL := Lib.hid hbL
    clear hn1 hn2 hP1 hC1 hU2 hU hA hR hbR hbc hbL
    go_enter Try.func3, Try.ntmps3
    go_upto_region 6 with (first
      | (go_at_call 7; (with_reducible refine (HPW.out _ HXA.out).mono ?_); rintro e w1 ⟨ap, lp, cp, rfl, hp1, hw1⟩
         have cb1 := hw1.cell cb0
         have HX1 := Lib.hid (HXA.out.trans hw1))
      | (go_at_call 8; (with_reducible refine (HCW.out _ HX1.out).mono ?_); rintro e w2 ⟨ac, lc, cc, rfl, hc1, hw2⟩
         have cb2 := hw2.cell cb1
         have HX2 := Lib.hid (HX1.out.trans hw2))
      | (go_at_call 9; (with_reducible refine (HUA.out _ HX2.out).mono ?_); rintro e w3 ⟨rfl, hw3⟩))
    have HX3 := Lib.hid (HX2.out.trans hw3)
    have HB3 := Lib.hid (hw3.cell cb2)
    have HPT := Lib.hid fun (h : P1 = 0) => (fun (k : lp = la ∧ lp ≤ cp ∧ ReadsT w1 ap la n.toNat (fun r k => ep (rwb y r) k)) => (⟨k.1, k.2.2.ex (hw2.trans hw3)⟩ : lp = la ∧ ReadsT w3 ap la n.toNat (fun r k => ep (rwb y r) k))) (hp1.out.2 h)
    have HPN := Lib.hid hp1.out.1
    have HCN := Lib.hid hc1.out.1
    have HCT := Lib.hid fun (h : C1 = 0) => (fun (k : lc = la ∧ lc ≤ cc ∧ ReadsT w2 ac la lb (fun r k => (rwb y r + rwb z k).inv)) => (⟨k.1, k.2.2.ex hw3⟩ : lc = la ∧ ReadsT w3 ac la lb (fun r k => (rwb y r + rwb z k).inv))) (hc1.out.2 h)
    clear cb0 cb1 cb2 hw1 hw2 hw3 hp1 hc1 HX1 HX2 HXA HPW HCW HUA ha
    go_cut [60] (fun v60 wx => v60 = .bool bn ∧ w3 = wx)
    case first =>
      cases bn with
      | true =>
        have h := HN1.out rfl
        by_cases h1 : n < 1
        · go_wp2
          go_meet
          exact ⟨rfl, rfl⟩
        · have h2 : 12 < n := by omega
          go_wp2
          go_meet
          exact ⟨by first | rfl | (simp; done) | (simp; omega), rfl⟩
      | false =>
        obtain ⟨h1, h2⟩ := HN2.out rfl
        go_wp2
        go_meet
        exact ⟨by first | rfl | (simp; done) | (simp; omega), rfl⟩
    case rest =>
    obtain ⟨rfl, rfl⟩ := hcut
    go_upto_if 60 with fail
    go_cut [] (fun wx => Ex w3 wx)
    case first =>
      cases bn with
      | true =>
        have hP1 := HPE.out.1 rfl
        subst hP1
        obtain rfl := HPN.out (by decide)
        go_wp2
        go_meet
        exact Ex.refl _
      | false =>
        have hP1 := HPE.out.2 rfl
        subst hP1
        obtain ⟨n1, n2⟩ := HN2.out rfl
        obtain ⟨m, rfl⟩ : ∃ m : Nat, n = (m : Int) := ⟨n.toNat, by omega⟩
        obtain ⟨hlp, hPT⟩ := HPT.out rfl
        subst hlp
        have HPT3 : Hid (ReadsT w3 ap lp m (fun r k => ep (rwb y r) k)) := Lib.hid hPT
        clear hPT HPT HPN HN1 HN2 HPE
        have hm1 : 1 ≤ m := by omega
        have hm2 : m ≤ 12 := by omega
        have HW0 := Lib.hid (Ex.refl w3)
        have cb3 := HB3.out
        go_wp2
        clear cb3
        go_loopg [12, 70] lp (fun k v12 v70 wr => ∃ (i : Nat) (V : Value), i ≤ lp ∧ v12 = V ∧ v70 = .int .i64 (i : Int) ∧ Hid (OwnT 22 wr w3.heap.size V m i (fun r k => ep (rwb y r) k)) ∧ Hid (k = lp - i) ∧ Ex w3 wr)
        case atStart => exact ⟨0, _, by omega, rfl, rfl, Lib.hid (OwnT.nil _ _ _ _ _), Lib.hid rfl, HW0.out⟩
        case round =>
          obtain ⟨i, V, hi, rfl, rfl, hO, hk, hx⟩ := hrel
          by_cases hlt : i < lp
          · have q1 := (HX3.out.trans hx).cell (HA.out i hlt)
            obtain ⟨X, hX⟩ : ∃ X, rwb y i = X := ⟨_, rfl⟩
            have HXI := Lib.hid hX
            rw [hX] at q1
            have xl := X.lt
            have HPO := Lib.hid fun k w (h : k < 13) => rpower_any X.v k w X.lt (by omega)
            clear hX
            rename World => wo
            go_wp2
            go_loopg [15, 75] m (fun k v15 v75 wr => ∃ (j : Nat) (U : Value), j ≤ m ∧ v15 = U ∧ v75 = .int .i64 (j : Int) ∧ Hid (Row 5 .u8 wr wo.heap.size U (bl (fun k => ep X k) j)) ∧ Hid (k = m - j) ∧ Ex wo wr)
            case atStart => exact ⟨0, _, by omega, rfl, rfl, Lib.hid (Row.nil _ _ _ _), Lib.hid rfl, Ex.refl _⟩
            case round =>
              obtain ⟨j, U, hj, rfl, rfl, hRow, hk2, hx2⟩ := hrel
              by_cases hjt : j < m
              · obtain ⟨Y, hY⟩ : ∃ Y, ep X j = Y := ⟨_, rfl⟩
                have hYv : gp X.v j = Y.v := by rw [← hY, ep_v]
                have HPJ := Lib.hid fun w => HPO.out j w (by omega)
                rw [hYv] at HPJ
                have yl := Y.lt
                have HSN : Hid (bl (fun k => ep X k) j ++ [((Y.v : Nat) : Int)] = bl (fun k => ep X k) (j + 1)) := Lib.hid (by rw [← bl_snoc, ← hY])
                clear hY hYv
                go_wp2_with (first
                  | (go_at_call 10; (with_reducible refine (HPJ.out _).mono ?_); rintro e w5 ⟨rfl, hw5⟩
                     have HX5 := Lib.hid (hx2.trans hw5))
                  | (at_builtin; refine wpList_append_int rfl _ _ 22 rfl wo.heap.size 5 .u8 1 Try.underlying22 info_u8 _ (bl (fun k => ep X k) j) rfl ((hRow.out.ex hw5).ex ((Ex.refl w5).alloc (.cells #[.int .u8 ((Y.v : Nat) : Int)] 5))) ((Y.v : Nat) : Int) w5.heap.size rfl (cell_fresh1 w5 _ _) (by rw [bl_length]; unfold maxLen; omega) (by rw [bl_length]; omega) (HX5.out.alloc _).size ?_
                     intro v1 w6 hown6 hgrow6 _
                     have HX6 := Lib.hid (((hRow.out.ex hw5).ex ((Ex.refl w5).alloc (.cells #[.int .u8 ((Y.v : Nat) : Int)] 5))).grown (HX5.out.alloc _) hgrow6)
                     rw [HSN.out] at hown6
                     have HR6 := Lib.hid hown6
                     clear hown6 hgrow6))
                go_roundg (m - (j + 1))
                case measure => have := hk2.out; omega
                case rel => exact ⟨j + 1, v1, by omega, rfl, by go_num, HR6, Lib.hid rfl, HX6.out⟩
              · have e : m = j := by omega
                subst e
                obtain ⟨ar, cr, eRow⟩ : ∃ ar cr, u15 = .slice ar m cr := by
                  obtain ⟨ar, cr, e, _⟩ := hRow.out.reads
                  rw [bl_length] at e
                  exact ⟨_, _, e⟩
                subst eRow
                have c1 := cell_fresh1 wr (.slice ar m cr) 22
                have HXa := Lib.hid ((Ex.refl wr).alloc (.cells #[.slice ar m cr] 22))
                have HRA := Lib.hid (hRow.out.ex HXa.out)
                have HOA := Lib.hid ((hO.out.ex (hx2)).ex HXa.out)
                have HXz := Lib.hid ((hx2).trans HXa.out)
                have HXw := Lib.hid (((hx).trans (hx2)).trans HXa.out)
                have HBB := Lib.hid (hx).size
                go_wp2_with (at_builtin; refine wpList_append_row rfl _ _ 23 rfl w3.heap.size 22 Try.underlying23 info_bytes _ rfl hO.out HXz.out HRA.out (by omega) HBB.out wr.heap.size rfl c1 (by omega) ?_
                             intro v1 w9 hown3 hgrow3
                             have HX3 := Lib.hid (HOA.out.grown HXw.out hgrow3)
                             have HOWN3 := Lib.hid hown3
                             clear hown3 hgrow3 c1)
                go_roundg (lp - (i + 1))
                case measure => have := hk.out; omega
                case rel => exact ⟨i + 1, v1, by omega, rfl, by go_num, Lib.hid (HOWN3.out.congr fun r _ k _ => by
                  by_cases h : r = i
                  · rw [if_pos h, h, HXI.out]
                  · rw [if_neg h]), Lib.hid rfl, HX3.out⟩
          · have e : lp = i := by omega
            subst e
            obtain ⟨a2, c2, rfl, h1, h2, h3⟩ := hO.out.reads (by omega)
            have HSR := Lib.hid (lawSame_any lp m _ (by omega) (by omega) (by omega) ap a2 cp c2 wr (HPT3.out.ex hx) h3)
            clear h3 h1 h2
            go_wp2_with (go_at_call 11; (with_reducible refine (HSR.out).mono ?_); rintro e w8 ⟨rfl, hw8⟩)
            go_meet
            exact hx.trans hw8
    case rest =>
    rename World => w4
    have hx34 := hcut
    have HX4 := Lib.hid (HX3.out.trans hx34)
    have HB4 := Lib.hid (hx34.cell HB3.out)
    have HUB4 := Lib.hid (HUB.out _ HX4.out)
    clear HPE HPT HPN HN1 HN2
    by_cases hU2 : U2 = 0
    · subst hU2
      have hBV : ReadsV w4 b lb (fun i => .int .u8 (nth z i)) := by
        rcases HBR.out.ex HX4.out with h | ⟨b2, o2, h1, h2⟩
        · left; rw [← HBL.out, h]; rfl
        · exact .inr ⟨b2, o2, h1, fun i hi => h2 i (by rw [HBL.out]; exact hi)⟩
      have hany : anyP (fun i => decide (nth z i ∈ y)) lb = bc := by
        cases bc
        · refine anyP_no fun j hj => decide_eq_false fun h => ?_
          have := HBC.out.mpr ⟨nth z j, nth_mem (by rw [HBL.out]; exact hj), h⟩
          cases this
        · obtain ⟨x, h1, h2⟩ := HBC.out.mp rfl
          obtain ⟨j, hj, e⟩ := List.mem_iff_getElem.mp h1
          exact anyP_yes (k := j) (by rw [← HBL.out]; exact hj) (decide_eq_true (by rw [nth_eq hj, e]; exact h2))
      have HCF : Hid (∀ w5, Ex w4 w5 → Calls Try.prog 12 #[.slice b lb cb, .func (.func 13) #[] #[.pointer (some ⟨w.heap.size, 0, none⟩)]] w5 (Says (.bool bc) w5)) := Lib.hid fun w5 k => by
        rw [← hany]
        refine byts_contains 13 #[.pointer (some ⟨w.heap.size, 0, none⟩)] (fun i => decide (nth z i ∈ y)) (fun i => .int .u8 (nth z i)) lb b cb w5 (by unfold maxLen; omega) (hBV.ex k) entered_gs fun i hi w6 k6 => ?_
        exact gs1_any (nth z i) y (some ⟨bA, oA, none⟩) ca la w.heap.size w6 hl (by omega) (HRA.out.ex ((HX4.out.trans k).trans k6)) ((k.trans k6).cell HB4.out) _ (by simp)
      clear hBV hany
      cases bc with
      | true =>
        have hC1 := HCE.out.2.1 rfl rfl
        subst hC1
        obtain rfl := HCN.out (by decide)
        go_wp2_with (first
          | (go_at_call 9; (with_reducible refine (HUB4.out).mono ?_); rintro e w5 ⟨rfl, hw5⟩)
          | (go_at_call 12; (with_reducible refine (HCF.out _ hw5).mono ?_); rintro e w6 ⟨rfl, hw6⟩))
        go_ret
        exact ⟨rfl, (HX4.out.trans hw5).trans hw6⟩
      | false =>
        have hC1 := HCE.out.2.2 rfl rfl
        subst hC1
        obtain ⟨hlc, hCT⟩ := HCT.out rfl
        subst hlc
        obtain ⟨g1, g2, g3⟩ := HVB.out rfl
        obtain ⟨bB, oB, rfl, hB⟩ := g3
        have HBB := Lib.hid hB
        have HCT4 := Lib.hid (hCT.ex hx34)
        clear hB hCT HCT HCN HVB HCE HBC HBR
        go_upto_region 28 with (first
          | (go_at_call 9; (with_reducible refine (HUB4.out).mono ?_); rintro e w5 ⟨rfl, hw5⟩)
          | (go_at_call 12; (with_reducible refine (HCF.out _ hw5).mono ?_); rintro e w6 ⟨rfl, hw6⟩))
        have hx46 := hw5.trans hw6
        have HX6 := Lib.hid (HX4.out.trans hx46)
        have HCT6 := Lib.hid (HCT4.out.ex hx46)
        have cb6 := hx46.cell HB4.out
        have HW0 := Lib.hid (Ex.refl w6)
        clear hw5 hw6 HUB4 HCF HCT4
        go_wp2
        clear cb6
        go_loopg [17, 119] lc (fun k v17 v119 wr => ∃ (i : Nat) (V : Value), i ≤ lc ∧ v17 = V ∧ v119 = .int .i64 (i : Int) ∧ Hid (OwnT 22 wr w6.heap.size V lb i (fun r k => (rwb y r + rwb z k).inv)) ∧ Hid (k = lc - i) ∧ Ex w6 wr)
        case atStart => exact ⟨0, _, by omega, rfl, rfl, Lib.hid (OwnT.nil _ _ _ _ _), Lib.hid rfl, HW0.out⟩
        case round =>
          obtain ⟨i, V, hi, rfl, rfl, hO, hk, hx⟩ := hrel
          by_cases hlt : i < lc
          · have q1 := (HX6.out.trans hx).cell (HA.out i hlt)
            obtain ⟨X, hX⟩ : ∃ X, rwb y i = X := ⟨_, rfl⟩
            have HXI := Lib.hid hX
            rw [hX] at q1
            have xl := X.lt
            clear hX
            rename World => wo
            go_wp2
            go_loopg [20, 125] lb (fun k v20 v125 wr => ∃ (j : Nat) (U : Value), j ≤ lb ∧ v20 = U ∧ v125 = .int .i64 (j : Int) ∧ Hid (Row 5 .u8 wr wo.heap.size U (bl (fun k => (X + rwb z k).inv) j)) ∧ Hid (k = lb - j) ∧ Ex wo wr)
            case atStart => exact ⟨0, _, by omega, rfl, rfl, Lib.hid (Row.nil _ _ _ _), Lib.hid rfl, Ex.refl _⟩
            case round =>
              obtain ⟨j, U, hj, rfl, rfl, hRow, hk2, hx2⟩ := hrel
              by_cases hjt : j < lb
              · have q2 := ((HX6.out.trans hx).trans hx2).cell (HBB.out j hjt)
                obtain ⟨Z, hZ⟩ : ∃ Z, rwb z j = Z := ⟨_, rfl⟩
                rw [hZ] at q2
                have zl := Z.lt
                have XX := xor_u8_nat X.v Z.v X.lt Z.lt
                obtain ⟨S, hS⟩ : ∃ S, X.v ^^^ Z.v = S := ⟨_, rfl⟩
                have hSl : S < 256 := by rw [← hS]; exact Nat.xor_lt_two_pow (n := 8) X.lt Z.lt
                rw [hS] at XX
                obtain ⟨Y, hY⟩ : ∃ Y, (X + Z).inv = Y := ⟨_, rfl⟩
                have hYv : gi S = Y.v := by rw [← hY, ← hS]; rfl
                have HPJ := Lib.hid fun w => undo_any S w hSl
                rw [hYv] at HPJ
                have yl := Y.lt
                have HSN : Hid (bl (fun k => (X + rwb z k).inv) j ++ [((Y.v : Nat) : Int)] = bl (fun k => (X + rwb z k).inv) (j + 1)) := Lib.hid (by rw [← bl_snoc, hZ, ← hY])
                clear hY hYv hS hZ
                go_wp2_with (first
                  | (go_at_call 15; (with_reducible refine (HPJ.out _).mono ?_); rintro e w5 ⟨rfl, hw5⟩
                     have HX5 := Lib.hid (hx2.trans hw5))
                  | (at_builtin; refine wpList_append_int rfl _ _ 22 rfl wo.heap.size 5 .u8 1 Try.underlying22 info_u8 _ (bl (fun k => (X + rwb z k).inv) j) rfl ((hRow.out.ex hw5).ex ((Ex.refl w5).alloc (.cells #[.int .u8 ((Y.v : Nat) : Int)] 5))) ((Y.v : Nat) : Int) w5.heap.size rfl (cell_fresh1 w5 _ _) (by rw [bl_length]; unfold maxLen; omega) (by rw [bl_length]; omega) (HX5.out.alloc _).size ?_
                     intro v1 w7 hown6 hgrow6 _
                     have HX7 := Lib.hid (((hRow.out.ex hw5).ex ((Ex.refl w5).alloc (.cells #[.int .u8 ((Y.v : Nat) : Int)] 5))).grown (HX5.out.alloc _) hgrow6)
                     rw [HSN.out] at hown6
                     have HR6 := Lib.hid hown6
                     clear hown6 hgrow6))
                go_roundg (lb - (j + 1))
                case measure => have := hk2.out; omega
                case rel => exact ⟨j + 1, v1, by omega, rfl, by go_num, HR6, Lib.hid rfl, HX7.out⟩
              · have e : lb = j := by omega
                subst e
                obtain ⟨ar, cr, eRow⟩ : ∃ ar cr, u20 = .slice ar lb cr := by
                  obtain ⟨ar, cr, e, _⟩ := hRow.out.reads
                  rw [bl_length] at e
                  exact ⟨_, _, e⟩
                subst eRow
                have c1 := cell_fresh1 wr (.slice ar lb cr) 22
                have HXa := Lib.hid ((Ex.refl wr).alloc (.cells #[.slice ar lb cr] 22))
                have HRA := Lib.hid (hRow.out.ex HXa.out)
                have HOA := Lib.hid ((hO.out.ex (hx2)).ex HXa.out)
                have HXz := Lib.hid ((hx2).trans HXa.out)
                have HXw := Lib.hid (((hx).trans (hx2)).trans HXa.out)
                have HBB := Lib.hid (hx).size
                go_wp2_with (at_builtin; refine wpList_append_row rfl _ _ 23 rfl w6.heap.size 22 Try.underlying23 info_bytes _ rfl hO.out HXz.out HRA.out (by omega) HBB.out wr.heap.size rfl c1 (by omega) ?_
                             intro v1 w9 hown3 hgrow3
                             have HX3 := Lib.hid (HOA.out.grown HXw.out hgrow3)
                             have HOWN3 := Lib.hid hown3
                             clear hown3 hgrow3 c1)
                go_roundg (lc - (i + 1))
                case measure => have := hk.out; omega
                case rel => exact ⟨i + 1, v1, by omega, rfl, by go_num, Lib.hid (HOWN3.out.congr fun r _ k _ => by
                  by_cases h : r = i
                  · rw [if_pos h, h, HXI.out]
                  · rw [if_neg h]), Lib.hid rfl, HX3.out⟩
          · have e : lc = i := by omega
            subst e
            obtain ⟨a2, c2, rfl, h1, h2, h3⟩ := hO.out.reads (by omega)
            have HSR := Lib.hid (lawSame_any lc lb _ (by omega) (by omega) (by omega) ac a2 cc c2 wr (HCT6.out.ex hx) h3)
            clear h3 h1 h2
            go_wp2_with (go_at_call 11; (with_reducible refine (HSR.out).mono ?_); rintro e w8 ⟨rfl, hw8⟩)
            go_ret
            exact ⟨rfl, (HX6.out.trans hx).trans hw8⟩
    · have hC1 := HCE.out.1 hU2
      subst hC1
      obtain rfl := HCN.out hU2
      have hU3 : (C1 == 0) = false := by simpa using hU2
      have hU4 : (C1 != 0) = true := by simpa using hU2
      go_wp2_with (go_at_call 9; (with_reducible refine (HUB4.out).mono ?_); rintro e w5 ⟨rfl, hw5⟩)
      go_ret
      exact ⟨rfl, HX4.out.trans hw5⟩
  · have e1 : powE y n = unE y := by unfold powE; rw [if_pos hU]
    have e2 : crE y z = unE y := by unfold crE; rw [if_pos hU]
    rw [e1] at HPW
    rw [e2] at HCW
    obtain ⟨U, hUU⟩ : ∃ U, unE y = U := ⟨_, rfl⟩
    rw [hUU] at HPW HCW HUA hU
    have hU2 : (U != 0) = true := by simpa using hU
    have HU := Lib.hid hU
    clear e1 e2 hUU hU HUB ha hb
    go_enter Try.func3, Try.ntmps3
    go_wp2_with (first
      | (go_at_call 7; (with_reducible refine (HPW.out _ HXA.out).mono ?_); rintro e w1 ⟨ap, lp, cp, rfl, hp1, hw1⟩
         obtain rfl := hp1.out.1 HU.out
         have cb1 := hw1.cell cb0
         have HX1 := Lib.hid (HXA.out.trans hw1))
      | (go_at_call 8; (with_reducible refine (HCW.out _ HX1.out).mono ?_); rintro e w2 ⟨ac, lc, cc, rfl, hc1, hw2⟩
         obtain rfl := hc1.out.1 HU.out
         have cb2 := hw2.cell cb1
         have HX2 := Lib.hid (HX1.out.trans hw2))
      | (go_at_call 9; (with_reducible refine (HUA.out _ HX2.out).mono ?_); rintro e w3 ⟨rfl, hw3⟩))
    go_ret
    exact ⟨rfl, HX2.out.trans hw3⟩

end Go.Proofs.Yteaehaebhpcfeaa
