/-
  GridCauchy: the walk.
-/
import Derived.Test.YteaehaebhpcfeaaGdCauchy
namespace Go.Proofs.Yteaehaebhpcfeaa
open Go.RowKit
open Gf

set_option maxRecDepth 100000 in
set_option maxHeartbeats 4000000 in
theorem gridCauchy_of (HC : CrossC) (HD : DetC) (HR : RankC) (a : Option Addr) (la ca : Nat) (z : List Int) (b : Option Addr) (lb cb : Nat) (y : List Int) (p q : Nat) (w : World) (ha : IsInts .u8 1 w a la ca z) (hb : IsInts .u8 1 w b lb cb y) (hp : p < 65536) (hq : q < 65536) :
    Calls Try.prog 5 #[.slice a la ca, .slice b lb cb, .int .u16 (p : Int), .int .u16 (q : Int)] w (Says (.bool true) w) := by
  have HL := Lib.hid fun w => crossed_lit HC w 5
  have HT := Lib.hid (tables_yes HD HR)
  have HS1 : Hid (∀ w a1 c1, ReadsT w a1 1 1 (litM [[1]]) → Calls Try.prog 16 #[.slice a1 1 c1, .slice (some ⟨w.heap.size + 1, 0, none⟩) 1 1] ((w.alloc (.cells #[.int .u8 1] 5)).alloc (.cells #[.slice (some ⟨w.heap.size, 0, none⟩) 1 1] 22))
      (Says (.bool true) w)) := Lib.hid fun w a1 c1 h => by
    have hx := ((Ex.refl w).alloc (.cells #[.int .u8 1] 5)).alloc (.cells #[.slice (some ⟨w.heap.size, 0, none⟩) 1 1] 22)
    exact (keepSame_any 1 1 _ (by omega) (by omega) (by omega) a1 _ c1 1 _ (h.ex hx) (lit11 w 1 5 22 (by decide))).mono fun e w2 ⟨h1, h2⟩ => ⟨h1, hx.trans h2⟩
  have T0 := Lib.hid True.intro
  have hlen := ha.1
  have hcap := ha.2.1
  have hcap2 := ha.2.2.1
  have hlenb := hb.1
  have hcapb := hb.2.1
  have hcapb2 := hb.2.2.1
  by_cases h1 : crE z y = 0
  · obtain ⟨d1, d2, d3⟩ := crE_zero.mp h1
    obtain ⟨e1, e2, e3⟩ := unE_zero.mp d1
    obtain ⟨f1, f2, f3⟩ := unE_zero.mp d2
    rw [hlen] at e1 e2
    rw [hlenb] at f1 f2
    have hv := ha.vec e1
    have hu := ha.unlike e3
    have hf := hb.vec f1
    have hg := hb.unlike f3
    have hn : ∀ i k, i < la → k < lb → rwb z i ≠ rwb y k := fun i k hi hk e => by
      have g1 := ha.rwb_v (i := i) (by omega)
      have g2 := hb.rwb_v (i := k) (by omega)
      rw [e] at g1
      have g3 : nth y k = nth z i := g2.symm.trans g1
      exact d3 _ (nth_mem (i := k) (by omega)) (by rw [g3]; exact nth_mem (by omega))
    obtain ⟨x, hx⟩ : ∃ x, rwb z = x := ⟨_, rfl⟩
    obtain ⟨F, hF⟩ : ∃ F, rwb y = F := ⟨_, rfl⟩
    rw [hx] at hv hu hn
    rw [hF] at hf hg hn
    have HPA := Lib.hid fun w2 (k : Ex w w2) => HC.ok (ca := ca) (cb := cb) e1 e2 ha.2.1 (by have := ha.2.2.1; omega) f1 f2 hb.2.1 (by have := hb.2.2.1; omega) hu hg hn (hv.ex k) (hf.ex k)
    obtain ⟨M, hM⟩ : ∃ M : Nat → Nat → E, M = fun r k => (x ((slc p la).getD r 0) + F ((slc q lb).getD k 0)).inv := ⟨_, rfl⟩
    have HDET : Hid (∀ n, n ≤ (slc p la).length → n ≤ (slc q lb).length → det M n ≠ 0) := Lib.hid fun n h1 h2 => by
      rw [hM]
      exact cauchy_not (fun i k hk hi => hu _ _ (slc_up hk (by omega)) (slc_lt (by omega))) (fun i k hk hi => hg _ _ (slc_up hk (by omega)) (slc_lt (by omega))) fun i k hi hk => hn _ _ (slc_lt (by omega)) (slc_lt (by omega))
    have HMM := Lib.hid hM
    obtain ⟨C, hC⟩ : ∃ C, (slc q lb).length = C := ⟨_, rfl⟩
    have hC12 : C ≤ 12 := by have := slc_le q lb; omega
    have HCC := Lib.hid hC
    rw [hC] at HDET
    clear h1 d1 d2 d3 e3 f3 hu hg hn hx hF ha hb hv hf hM hC
    by_cases hC0 : C = 0
    · subst hC0
      have HNO : Hid (∀ j, j < lb → bi q j = 0) := Lib.hid fun j hj => by
        rcases bi_cases q j with h | h
        · exact h
        · have := (slc_at h hj).2
          rw [HCC.out] at this
          omega
      clear HDET HMM HCC
      go_enter Try.func5, Try.ntmps5
      go_wp2_with (first
        | (go_at_call 8; clear T0; (with_reducible refine (HL.out _).mono ?_); rintro e w1 ⟨a1, c1, rfl, hc1, hr1, hw1⟩)
        | (go_at_call 16; (with_reducible refine (HS1.out _ _ _ hr1.out).mono ?_); rintro e w2 ⟨rfl, hw2⟩)
        | (go_at_call 17; (with_reducible refine (HT.out _).mono ?_); rintro e w3 ⟨rfl, hw3⟩)
        | (go_at_call 8; (with_reducible refine (HPA.out _ (by repeat (first | assumption | exact Ex.refl _ | refine Ex.trans ?_ (by assumption)))).mono ?_); rintro e w4 ⟨a4, c4, rfl, hc4, hr4, hw4⟩))
      have HX4 : Hid (Ex w w4) := Lib.hid (by repeat (first | assumption | exact Ex.refl _ | refine Ex.trans ?_ (by assumption)))
      obtain ⟨b4, o4, _, _, _, rfl, _⟩ := hr4.out.at (r := 0) (by omega)
      clear hw1 hw2 hw3 hw4 hr1 HL HS1 HPA HT
      go_loopg [13, 55] la (fun k v13 v55 wr => ∃ (i : Nat) (V : Value), i ≤ la ∧ v13 = V ∧ v55 = .int .i64 (i : Int) ∧ Hid (∃ us, us.length ≤ i ∧ RowV 22 wr w4.heap.size V us ∧ ∀ u ∈ us, u = .slice none 0 0) ∧ Hid (k = la - i) ∧ Ex w4 wr)
      case atStart => exact ⟨0, _, by omega, rfl, rfl, Lib.hid ⟨[], Nat.le_refl _, RowV.nil _ _ _, fun u hu => by cases hu⟩, Lib.hid rfl, Ex.refl _⟩
      case round =>
        obtain ⟨i, V, hi, rfl, rfl, hO, hk, hx⟩ := hrel
        by_cases hlt : i < la
        · obtain ⟨b5, o5, br, orr, cr, eA, q1, qc, qm, qk⟩ := (hr4.out.ex hx).at hlt
          obtain ⟨rfl, rfl⟩ : b4 = b5 ∧ o4 = o5 := by have := congrArg (fun x => (x.getD ⟨0, 0, none⟩ : Addr)) eA; simp at this; exact this
          have QK := Lib.hid qk
          have XB := bi_u16 p i hp
          clear eA qk
          rcases bi_cases p i with hb | hb
          · rw [hb] at XB
            have XB' : bits .and .u16 ((p : Int) / 2 ^ i) 1 = 0 := XB
            clear XB hb
            go_wp2
            go_roundg (la - (i + 1))
            case measure => have := hk.out; omega
            case rel => exact ⟨i + 1, u13, by omega, rfl, by go_num, Lib.hid (by
              obtain ⟨us, k1, k2, k3⟩ := hO.out
              exact ⟨us, by omega, k2, k3⟩), Lib.hid rfl, hx⟩
          · rw [hb] at XB
            have XB' : bits .and .u16 ((p : Int) / 2 ^ i) 1 = 1 := XB
            clear XB hb
            rename World => wo
            go_wp2
            go_loopg [16, 67] lb (fun k v16 v67 wr => ∃ j : Nat, j ≤ lb ∧ v16 = .slice none 0 0 ∧ v67 = .int .i64 (j : Int) ∧ Hid (k = lb - j) ∧ wo = wr)
            case atStart => exact ⟨0, by omega, rfl, rfl, Lib.hid rfl, rfl⟩
            case round =>
              obtain ⟨j, hj, rfl, rfl, hkj, rfl⟩ := hrel
              by_cases hjt : j < lb
              · have q2 := QK.out j hjt
                have YB := bi_u16 q j hq
                rw [HNO.out j hjt] at YB
                have YB' : bits .and .u16 ((q : Int) / 2 ^ j) 1 = 0 := YB
                clear YB
                go_wp2
                go_roundg (lb - (j + 1))
                case measure => have := hkj.out; omega
                case rel => exact ⟨j + 1, by omega, rfl, by go_num, Lib.hid rfl, rfl⟩
              · have e : j = lb := by omega
                subst e
                obtain ⟨us, k1, k2, k3⟩ := hO.out
                have c1 := cell_fresh1 wo (.slice none 0 0) 22
                have HXa := Lib.hid ((Ex.refl wo).alloc (.cells #[.slice none 0 0] 22))
                have HRV := Lib.hid (k2.ex HXa.out)
                have HXw := Lib.hid (hx.trans HXa.out)
                have HK3 := Lib.hid k3
                have HBB := Lib.hid HXw.out.size
                clear k2 k3 hO QK
                go_wp2_with (at_builtin; refine wpList_append_value rfl _ _ 23 rfl w4.heap.size 22 (.slice none 0 0) 24 Try.underlying23 info_bytes rfl _ us rfl HRV.out (.slice none 0 0) rfl wo.heap.size rfl c1 (by unfold maxLen; omega) (by omega) HBB.out ?_
                             intro v1 w3 hown3 hgrow3 _
                             have HX3 := Lib.hid (HRV.out.grown HXw.out hgrow3)
                             have HOWN3 := Lib.hid hown3
                             clear hown3 hgrow3 c1)
                go_roundg (la - (i + 1))
                case measure => have := hk.out; omega
                case rel => exact ⟨i + 1, v1, by omega, rfl, by go_num, Lib.hid ⟨us ++ [.slice none 0 0], by simp; omega, HOWN3.out, fun u hu => by
                  rcases List.mem_append.mp hu with h | h
                  · exact HK3.out u h
                  · exact List.mem_singleton.mp h⟩, Lib.hid rfl, HX3.out⟩
        · have e : i = la := by omega
          subst e
          obtain ⟨us, k1, k2, k3⟩ := hO.out
          have HXW := Lib.hid (HX4.out.trans hx)
          clear hO hr4
          rcases k2.form with ⟨rfl, _⟩ | ⟨g, cap, rfl, _, _, m1, m2, m3, _⟩
          · clear k2 k3
            go_wp2
            go_ret
            exact ⟨rfl, HXW.out⟩
          · unfold maxLen at m2
            by_cases hu0 : us.length = 0
            · rw [hu0]
              clear k2 k3 m3
              go_wp2
              go_ret
              exact ⟨rfl, HXW.out⟩
            · have o0 := m3 0 (by omega)
              have e0 : nthV us 0 = .slice none 0 0 := by
                unfold nthV
                rw [List.getD_eq_getElem?_getD, List.getElem?_eq_getElem (Nat.pos_of_ne_zero hu0)]
                exact k3 _ (List.getElem_mem _)
              rw [e0] at o0
              have z1 : ((us.length : Int) == 0) = false := beq_eq_false_iff_ne.mpr (by omega)
              clear k2 k3 m3 e0
              go_wp2
              go_ret
              exact ⟨rfl, HXW.out⟩
    · have HD := Lib.hid HD
      go_enter Try.func5, Try.ntmps5
      go_wp2_with (first
        | (go_at_call 8; clear T0; (with_reducible refine (HL.out _).mono ?_); rintro e w1 ⟨a1, c1, rfl, hc1, hr1, hw1⟩)
        | (go_at_call 16; (with_reducible refine (HS1.out _ _ _ hr1.out).mono ?_); rintro e w2 ⟨rfl, hw2⟩)
        | (go_at_call 17; (with_reducible refine (HT.out _).mono ?_); rintro e w3 ⟨rfl, hw3⟩)
        | (go_at_call 8; (with_reducible refine (HPA.out _ (by repeat (first | assumption | exact Ex.refl _ | refine Ex.trans ?_ (by assumption)))).mono ?_); rintro e w4 ⟨a4, c4, rfl, hc4, hr4, hw4⟩))
      have HX4 : Hid (Ex w w4) := Lib.hid (by repeat (first | assumption | exact Ex.refl _ | refine Ex.trans ?_ (by assumption)))
      obtain ⟨b4, o4, _, _, _, rfl, _⟩ := hr4.out.at (r := 0) (by omega)
      clear hw1 hw2 hw3 hw4 hr1 HL HS1 HPA HT
      go_loopg [13, 55] la (fun k v13 v55 wr => ∃ (i : Nat) (V : Value), i ≤ la ∧ v13 = V ∧ v55 = .int .i64 (i : Int) ∧ Hid (OwnT 22 wr w4.heap.size V C (slc p i).length M) ∧ Hid (k = la - i) ∧ Ex w4 wr)
      case atStart => exact ⟨0, _, by omega, rfl, rfl, Lib.hid (OwnT.nil _ _ _ _ _), Lib.hid rfl, Ex.refl _⟩
      case round =>
        obtain ⟨i, V, hi, rfl, rfl, hO, hk, hx⟩ := hrel
        by_cases hlt : i < la
        · obtain ⟨b5, o5, br, orr, cr, eA, q1, qc, qm, qk⟩ := (hr4.out.ex hx).at hlt
          obtain ⟨rfl, rfl⟩ : b4 = b5 ∧ o4 = o5 := by have := congrArg (fun x => (x.getD ⟨0, 0, none⟩ : Addr)) eA; simp at this; exact this
          have QK := Lib.hid qk
          have XB := bi_u16 p i hp
          clear eA qk
          rcases bi_cases p i with hb | hb
          · rw [hb] at XB
            have XB' : bits .and .u16 ((p : Int) / 2 ^ i) 1 = 0 := XB
            have HSL := Lib.hid (slc_no hb)
            clear XB hb
            go_wp2
            go_roundg (la - (i + 1))
            case measure => have := hk.out; omega
            case rel => exact ⟨i + 1, u13, by omega, rfl, by go_num, Lib.hid (by rw [HSL.out]; exact hO.out), Lib.hid rfl, hx⟩
          · rw [hb] at XB
            have XB' : bits .and .u16 ((p : Int) / 2 ^ i) 1 = 1 := XB
            have HSL := Lib.hid (slc_yes hb)
            have HAT := Lib.hid (slc_at hb hlt)
            clear XB hb
            rename World => wo
            go_wp2
            go_loopg [16, 67] lb (fun k v16 v67 wr => ∃ (j : Nat) (U : Value), j ≤ lb ∧ v16 = U ∧ v67 = .int .i64 (j : Int) ∧ Hid (Row 5 .u8 wr wo.heap.size U (bl (fun k => (x i + F ((slc q lb).getD k 0)).inv) (slc q j).length)) ∧ Hid (k = lb - j) ∧ Ex wo wr)
            case atStart => exact ⟨0, _, by omega, rfl, rfl, Lib.hid (Row.nil _ _ _ _), Lib.hid rfl, Ex.refl _⟩
            case round =>
              obtain ⟨j, U, hj, rfl, rfl, hRow, hkj, hx2⟩ := hrel
              by_cases hjt : j < lb
              · have q2 := hx2.cell (QK.out j hjt)
                have YB := bi_u16 q j hq
                rcases bi_cases q j with hb | hb
                · rw [hb] at YB
                  have YB' : bits .and .u16 ((q : Int) / 2 ^ j) 1 = 0 := YB
                  have HSJ := Lib.hid (slc_no hb)
                  clear YB hb
                  go_wp2
                  go_roundg (lb - (j + 1))
                  case measure => have := hkj.out; omega
                  case rel => exact ⟨j + 1, u16, by omega, rfl, by go_num, Lib.hid (by rw [HSJ.out]; exact hRow.out), Lib.hid rfl, hx2⟩
                · rw [hb] at YB
                  have YB' : bits .and .u16 ((q : Int) / 2 ^ j) 1 = 1 := YB
                  have HSJ := Lib.hid (slc_yes hb)
                  have HAJ := Lib.hid (slc_at hb hjt)
                  have hsl := slc_le q j
                  obtain ⟨s, hs⟩ : ∃ s, (slc q j).length = s := ⟨_, rfl⟩
                  rw [hs] at hRow HAJ hsl
                  have HSS := Lib.hid hs
                  obtain ⟨X, hX⟩ : ∃ X, (x i + F j).inv = X := ⟨_, rfl⟩
                  have HXF : Hid (X = (fun k => (x i + F ((slc q lb).getD k 0)).inv) s) := Lib.hid (by
                    show X = (x i + F ((slc q lb).getD s 0)).inv
                    rw [HAJ.out.1, hX])
                  rw [hX] at q2
                  have Xl := X.lt
                  clear YB hb hX hs
                  have c1 := cell_fresh1 wr (.int .u8 ((X.v : Nat) : Int)) 5
                  have HXw := Lib.hid ((hx2).alloc (.cells #[.int .u8 ((X.v : Nat) : Int)] 5))
                  have HRA := Lib.hid ((hRow.out.ex (Ex.refl wr)).ex ((Ex.refl wr).alloc (.cells #[.int .u8 ((X.v : Nat) : Int)] 5)))
                  go_wp2_with (at_builtin; refine wpList_append_int rfl _ _ 22 rfl wo.heap.size 5 .u8 1 Try.underlying22 info_u8 _ (bl (fun k => (x i + F ((slc q lb).getD k 0)).inv) s) rfl HRA.out ((X.v : Nat) : Int) wr.heap.size rfl c1 (by rw [bl_length]; unfold maxLen; omega) (by rw [bl_length]; omega) HXw.out.size ?_
                               intro v1 w3 hown3 hgrow3 hat3
                               have HX3 := Lib.hid (HRA.out.grown HXw.out hgrow3)
                               rw [HXF.out, bl_snoc] at hown3
                               have HR3 := Lib.hid hown3
                               clear hown3 hgrow3 hat3 c1)
                  go_roundg (lb - (j + 1))
                  case measure => have := hkj.out; omega
                  case rel => exact ⟨j + 1, v1, by omega, rfl, by go_num, Lib.hid (by rw [HSJ.out, List.length_append, HSS.out]; exact HR3.out), Lib.hid rfl, HX3.out⟩
              · have e : j = lb := by omega
                subst e
                have hsl := slc_le p i
                obtain ⟨s, hs⟩ : ∃ s, (slc p i).length = s := ⟨_, rfl⟩
                rw [hs] at hO hsl HAT
                have HSS := Lib.hid hs
                rw [HCC.out] at hRow
                clear hs QK
                obtain ⟨ar, cr, eRow⟩ : ∃ ar cr, u16 = .slice ar C cr := by
                  obtain ⟨ar, cr, e, _⟩ := hRow.out.reads
                  rw [bl_length] at e
                  exact ⟨_, _, e⟩
                subst eRow
                have c1 := cell_fresh1 wr (.slice ar C cr) 22
                have HXa := Lib.hid ((Ex.refl wr).alloc (.cells #[.slice ar C cr] 22))
                have HRA := Lib.hid (hRow.out.ex HXa.out)
                have HOA := Lib.hid ((hO.out.ex (hx2)).ex HXa.out)
                have HXz := Lib.hid ((hx2).trans HXa.out)
                have HXw := Lib.hid (((hx).trans (hx2)).trans HXa.out)
                have HBB := Lib.hid (hx).size
                go_wp2_with (at_builtin; refine wpList_append_row rfl _ _ 23 rfl w4.heap.size 22 Try.underlying23 info_bytes _ rfl hO.out HXz.out HRA.out (by omega) HBB.out wr.heap.size rfl c1 (by omega) ?_
                             intro v1 w3 hown3 hgrow3
                             have HX3 := Lib.hid (HOA.out.grown HXw.out hgrow3)
                             have HOWN3 := Lib.hid hown3
                             clear hown3 hgrow3 c1)
                go_roundg (la - (i + 1))
                case measure => have := hk.out; omega
                case rel => exact ⟨i + 1, v1, by omega, rfl, by go_num, Lib.hid (by
                  rw [HSL.out, List.length_append, HSS.out]
                  exact HOWN3.out.congr fun r _ k _ => by
                    by_cases h : r = s
                    · rw [if_pos h, h, HMM.out]
                      show _ = (x ((slc p la).getD s 0) + _).inv
                      rw [HAT.out.1]
                    · rw [if_neg h]), Lib.hid rfl, HX3.out⟩
        · have e : i = la := by omega
          subst e
          have HD := HD.out
          obtain ⟨R, hR⟩ : ∃ R, (slc p i).length = R := ⟨_, rfl⟩
          have hR12 : R ≤ 12 := by have := slc_le p i; omega
          rw [hR] at hO HDET
          have HXW := Lib.hid (HX4.out.trans hx)
          clear hR hr4 HMM HCC
          by_cases hR0 : R = 0
          · subst hR0
            obtain ⟨a5, c5, rfl⟩ := hO.out.empty
            go_wp2
            go_ret
            exact ⟨rfl, HXW.out⟩
          · obtain ⟨G, cap, gs, cs, rfl, g1, g2, hG⟩ := hO.out.grid (by omega)
            unfold maxLen at g2
            have HG := Lib.hid hG
            have o0 := hG.outer 0 (by omega)
            clear hG
            by_cases hm : C < R
            · skip
              have HNZ : Hid (∀ w2 c2, ReadsT w2 (some ⟨G, 0, none⟩) C C M → Calls Try.prog 18 #[.slice (some ⟨G, 0, none⟩) C c2] w2 (Says (.tuple #[.int .u8 (((det M C).v : Nat) : Int), .int .i64 0]) w2)) := Lib.hid fun w2 c2 h => HD.ok (ca := c2) (by omega) (by omega) h
              obtain ⟨D, hD⟩ : ∃ D, det M C = D := ⟨_, rfl⟩
              have hD0 : D ≠ 0 := by rw [← hD]; exact HDET.out C (by omega) (by omega)
              rw [hD] at HNZ
              have Dl := D.lt
              have hdz : (((D.v : Nat) : Int) != 0) = true := by
                have : D.v ≠ 0 := fun e => hD0 (E.ext e)
                simp; omega
              have o0 := HG.out.outer 0 (by omega)
              have z1 : ((R : Int) == 0) = false := by simp; omega
              have z2 : ((C : Int) == 0) = false := by simp; omega
              clear hD hD0 hk hO
              go_wp2
              go_loopg [109] C (fun k v109 wr => ∃ i : Nat, i ≤ C ∧ v109 = .int .i64 (i : Int) ∧ Hid (Cut wr G C i C gs cs M) ∧ Hid (k = C - i) ∧ Ex w4 wr)
              case atStart => exact ⟨0, by omega, rfl, Lib.hid (Cut.start HG.out (by omega) (by omega)), Lib.hid rfl, hx⟩
              case round =>
                obtain ⟨t, ht, rfl, hCut, hkt, hxt⟩ := hrel
                by_cases htn : t < C
                · have o1 := hCut.out.outer t htn
                  rw [if_neg (by omega)] at o1
                  have f1 := hCut.out.free t
                  obtain ⟨p1, p2⟩ := hCut.out.cap t htn
                  go_wp2
                  go_roundg (C - (t + 1))
                  case measure => have := hkt.out; omega
                  case rel => exact ⟨t + 1, by omega, by go_num, Lib.hid (hCut.out.step htn), Lib.hid rfl, hxt.setCell (p := ⟨G, t, none⟩) HG.out.leG _⟩
                · have e : t = C := by omega
                  have HRT : Hid (ReadsT wr (some ⟨G, 0, none⟩) C C M) := Lib.hid (by have := hCut.out; rw [e] at this; exact this.done (by omega))
                  have HXT := Lib.hid (HX4.out.trans hxt)
                  have e2 : (t : Int) = ((C : Nat) : Int) := by rw [e]
                  rw [e2]
                  clear hCut
                  go_wp2_with (go_at_call 18; (with_reducible refine (HNZ.out _ _ HRT.out).mono ?_); rintro e w9 ⟨rfl, hw9⟩)
                  go_ret
                  exact ⟨rfl, HXT.out.trans hw9⟩
            · skip
              have HNZ : Hid (∀ w2 c2, ReadsT w2 (some ⟨G, 0, none⟩) R R M → Calls Try.prog 18 #[.slice (some ⟨G, 0, none⟩) R c2] w2 (Says (.tuple #[.int .u8 (((det M R).v : Nat) : Int), .int .i64 0]) w2)) := Lib.hid fun w2 c2 h => HD.ok (ca := c2) (by omega) (by omega) h
              obtain ⟨D, hD⟩ : ∃ D, det M R = D := ⟨_, rfl⟩
              have hD0 : D ≠ 0 := by rw [← hD]; exact HDET.out R (by omega) (by omega)
              rw [hD] at HNZ
              have Dl := D.lt
              have hdz : (((D.v : Nat) : Int) != 0) = true := by
                have : D.v ≠ 0 := fun e => hD0 (E.ext e)
                simp; omega
              have o0 := HG.out.outer 0 (by omega)
              have z1 : ((R : Int) == 0) = false := by simp; omega
              have z2 : ((C : Int) == 0) = false := by simp; omega
              clear hD hD0 hk hO
              go_wp2
              go_loopg [109] R (fun k v109 wr => ∃ i : Nat, i ≤ R ∧ v109 = .int .i64 (i : Int) ∧ Hid (Cut wr G R i C gs cs M) ∧ Hid (k = R - i) ∧ Ex w4 wr)
              case atStart => exact ⟨0, by omega, rfl, Lib.hid (Cut.start HG.out (by omega) (by omega)), Lib.hid rfl, hx⟩
              case round =>
                obtain ⟨t, ht, rfl, hCut, hkt, hxt⟩ := hrel
                by_cases htn : t < R
                · have o1 := hCut.out.outer t htn
                  rw [if_neg (by omega)] at o1
                  have f1 := hCut.out.free t
                  obtain ⟨p1, p2⟩ := hCut.out.cap t htn
                  go_wp2
                  go_roundg (R - (t + 1))
                  case measure => have := hkt.out; omega
                  case rel => exact ⟨t + 1, by omega, by go_num, Lib.hid (hCut.out.step htn), Lib.hid rfl, hxt.setCell (p := ⟨G, t, none⟩) HG.out.leG _⟩
                · have e : t = R := by omega
                  have HRT : Hid (ReadsT wr (some ⟨G, 0, none⟩) R R M) := Lib.hid (by have := hCut.out; rw [e] at this; exact this.done (by omega))
                  have HXT := Lib.hid (HX4.out.trans hxt)
                  have e2 : (t : Int) = ((R : Nat) : Int) := by rw [e]
                  rw [e2]
                  clear hCut
                  go_wp2_with (go_at_call 18; (with_reducible refine (HNZ.out _ _ HRT.out).mono ?_); rintro e w9 ⟨rfl, hw9⟩)
                  go_ret
                  exact ⟨rfl, HXT.out.trans hw9⟩
  · have HPA := Lib.hid fun w2 (k : Ex w w2) => HC.no (ha.ex k) (hb.ex k) h1
    have hz : (crE z y != 0) = true := by simpa using h1
    clear h1 ha hb
    go_enter Try.func5, Try.ntmps5
    go_wp2_with (first
      | (go_at_call 8; clear T0; (with_reducible refine (HL.out _).mono ?_); rintro e w1 ⟨a1, c1, rfl, hc1, hr1, hw1⟩)
      | (go_at_call 16; (with_reducible refine (HS1.out _ _ _ hr1.out).mono ?_); rintro e w2 ⟨rfl, hw2⟩)
      | (go_at_call 17; (with_reducible refine (HT.out _).mono ?_); rintro e w3 ⟨rfl, hw3⟩)
      | (go_at_call 8; (with_reducible refine (HPA.out _ (by repeat (first | assumption | exact Ex.refl _ | refine Ex.trans ?_ (by assumption)))).mono ?_); rintro e w4 ⟨a4, c4, rfl, hw4⟩))
    go_ret
    exact ⟨rfl, (by repeat (first | assumption | exact Ex.refl _ | refine Ex.trans ?_ (by assumption)))⟩

end Go.Proofs.Yteaehaebhpcfeaa
