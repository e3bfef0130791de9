/-
  wholeref.Steps, Through, RowOf.
-/
import Derived.Test.YthlnbomapfjphaaVecF
import Derived.Test.YthlnbomapfjphaaGfw
import Derived.Test.YthlnbomapfjphaaGpv
import Derived.Test.YthlnbomapfjphaaGso
import Derived.Test.YthlnbomapfjphaaMixT
import Derived.Test.YthlnbomapfjphaaGro
import Derived.Test.YthlnbomapfjphaaGtb
import Derived.Test.YthlnbomapfjphaaRowB
import Derived.Test.YthlnbomapfjphaaCloneB
import Derived.Test.YthlnbomapfjphaaReMath
import Derived.Test.YthlnbomapfjphaaAns
namespace Go.Proofs.Ythlnbomapfjphaa
open Go.RowKit
open Gf

set_option maxRecDepth 100000 in
set_option maxHeartbeats 1000000 in
theorem through_any (X D : Nat → E) (z : E) (k ca cb : Nat) (a b : Option Addr) (w : World) (hk : 1 ≤ k) (hk2 : k ≤ 20) (ha : ReadsF w a k X) (hb : ReadsF w b k D) :
    Calls Try.prog 55 #[.slice a k ca, .slice b k cb, .int .u8 ((z.v : Nat) : Int)] w (Says (.int .u8 (((hn X D z k k).v : Nat) : Int)) w) := by
  obtain ⟨bA, oA, rfl, hA⟩ := ha
  obtain ⟨bB, oB, rfl, hB⟩ := hb
  have HA := Lib.hid hA
  have HB := Lib.hid hB
  have zl := z.lt
  clear hA hB
  go_enter Try.func55, Try.ntmps55
  go_wp2
  go_loopg [7, 8] k (fun n v7 v8 wr => ∃ (t : Nat) (kk : Int) (Y : E), t ≤ k ∧ v7 = .int .u8 ((Y.v : Nat) : Int) ∧ v8 = .int .i64 kk ∧ Hid (kk = (k : Int) - 1 - t) ∧ Hid (Y = hn X D z k t) ∧ Hid (n = k - t) ∧ Ex w wr)
  case atStart => exact ⟨0, (k : Int) - 1, 0, by omega, rfl, rfl, Lib.hid (by omega), Lib.hid rfl, Lib.hid rfl, Ex.refl _⟩
  case round =>
    obtain ⟨t, kk, Y, ht, rfl, rfl, hkk, hY, hm, hx⟩ := hrel
    by_cases hlt : t < k
    · obtain ⟨i, rfl⟩ : ∃ i : Nat, kk = (i : Int) := ⟨kk.toNat, by have := hkk.out; omega⟩
      have hi : i = k - 1 - t := by have := hkk.out; omega
      have q1 := so_cell (hx.cell (HA.out i (by omega)))
      have q2 := so_cell (hx.cell (HB.out i (by omega)))
      have hst : Y * (z + X i) + D i = hn X D z k (t + 1) := by rw [hn, hY.out, hi]
      obtain ⟨x, hX⟩ : ∃ x, X i = x := ⟨_, rfl⟩
      obtain ⟨d, hD⟩ : ∃ d, D i = d := ⟨_, rfl⟩
      rw [hX] at q1 hst
      rw [hD] at q2 hst
      have HST := Lib.hid hst
      have Yl := Y.lt
      have xl := x.lt
      have dl := d.lt
      have HT : Hid (∀ w, Calls Try.prog 102 #[.int .u8 ((Y.v : Nat) : Int), .int .u8 (bits .xor .u8 ((z.v : Nat) : Int) ((x.v : Nat) : Int))] w (Says (.int .u8 (((Y * (z + x)).v : Nat) : Int)) w)) := Lib.hid fun w => by
        rw [xor_u8_nat z.v x.v z.lt x.lt]
        exact times_any Y.v (z + x).v w Y.lt (z + x).lt
      have hxx := xor_u8_nat (Y * (z + x)).v d.v (Y * (z + x)).lt d.lt
      obtain ⟨Q, hQ⟩ : ∃ Q, Y * (z + x) = Q := ⟨_, rfl⟩
      rw [hQ] at HT hxx
      have Ql := Q.lt
      have HQ : Hid (bits .xor .u8 ((Q.v : Nat) : Int) ((d.v : Nat) : Int) = (((Q + d).v : Nat) : Int)) := Lib.hid hxx
      have HST2 : Hid (Q + d = hn X D z k (t + 1)) := Lib.hid (by rw [← hQ]; exact HST.out)
      have hik : i < k := by omega
      have HI := Lib.hid hi
      clear hst hX hD hQ hxx hi
      go_wp2
      refine wp_region_wo (by kernel_rfl) (by kernel_rfl) ?_
      repeat (go_big_quiet_step ((go_at_call 102; exact says_wo (HT.out _))))
      refine wpQuiet_nil ?_
      rintro _ ⟨⟨w5, hw5⟩, rfl⟩
      clear q1 q2
      go_wp2
      go_roundg (k - (t + 1))
      case measure => have := hm.out; omega
      case rel => exact ⟨t + 1, (i : Int) - 1, Q + d, by omega, by rw [HQ.out], by go_num, Lib.hid (by have := HI.out; omega), HST2, Lib.hid rfl, hx.trans hw5⟩
    · have e : t = k := by omega
      subst e
      obtain rfl : kk = -1 := by have := hkk.out; omega
      have HE := hY
      go_wp2
      go_ret
      exact ⟨by rw [HE.out]; rfl, hx⟩

/-- Half a round. -/
def dvh (x y : Nat → E) (n i j : Nat) : E := if i ≤ j then dv x y (n + 1) j else dv x y n j
theorem dvh_start (x y : Nat → E) (n k : Nat) {j : Nat} (h : j < k) : dvh x y n k j = dv x y n j := by unfold dvh; rw [if_neg (by omega)]
theorem dvh_end (x y : Nat → E) (n j : Nat) : dvh x y n (n + 1) j = dv x y (n + 1) j := by
  unfold dvh
  by_cases h : n + 1 ≤ j
  · rw [if_pos h]
  · rw [if_neg h, dv, if_neg h]
theorem dvh_step (x y : Nat → E) {n i : Nat} (h : n + 1 ≤ i) (j : Nat) : updF (dvh x y n (i + 1)) i ((dv x y n i + dv x y n (i - 1)) * (x i + x (i - (n + 1))).inv) j = dvh x y n i j := by
  unfold updF dvh
  by_cases e : j = i
  · subst e
    rw [if_pos rfl, if_pos (Nat.le_refl _), dv, if_pos h]
  · rw [if_neg e]
    by_cases e2 : i + 1 ≤ j
    · rw [if_pos e2, if_pos (by omega)]
    · rw [if_neg e2, if_neg (by omega)]

set_option maxRecDepth 100000 in
set_option maxHeartbeats 2000000 in
theorem steps_any (X Y : Nat → E) (k ca cb : Nat) (a b : Option Addr) (w : World) (hk : 1 ≤ k) (hk2 : k ≤ 20) (ha : ReadsF w a k X) (hb : ReadsF w b k Y) :
    Calls Try.prog 54 #[.slice a k ca, .slice b k cb] w (fun e w2 => ∃ g c, e = .returned (.slice (some ⟨g, 0, none⟩) k c) ∧ Hid (RowB w2 g k (dv X Y (k - 1))) ∧ Ex w w2) := by
  obtain ⟨bA, oA, rfl, hA⟩ := ha
  obtain ⟨bB, oB, rfl, hB⟩ := hb
  have HA := Lib.hid hA
  have HCL := Lib.hid (clone_bytes Y k bB oB cb w (by omega) hk hB)
  clear hA hB
  go_enter Try.func54, Try.ntmps54
  go_wp2_with (go_at_call 27; (with_reducible refine (HCL.out).mono ?_); rintro e w1 ⟨v1, rfl, hr1, hw1⟩
               obtain ⟨g, c, rfl, hg1, hg2, hc1, hc2, hrb⟩ := hr1.out.rowB hk
               unfold maxLen at hc2)
  have HR1 : Hid (RowB w1 g k (dv X Y 0)) := Lib.hid hrb
  have HX1 := Lib.hid hw1
  clear hr1 hrb hw1
  go_loopg [6] (k - 1) (fun m v6 wr => ∃ n : Nat, n ≤ k - 1 ∧ v6 = .int .i64 ((n : Int) + 1) ∧ Hid (RowB wr g k (dv X Y n)) ∧ Hid (m = k - 1 - n) ∧ Ex w wr)
  case atStart => exact ⟨0, by omega, rfl, HR1, Lib.hid rfl, HX1.out⟩
  case round =>
    obtain ⟨n, hn, rfl, hR, hm, hx⟩ := hrel
    by_cases hnt : n < k - 1
    · have g1 : decide ((n : Int) + 1 < (k : Int)) = true := decide_eq_true (by omega)
      go_wp2
      go_loopg [7] (k - (n + 1)) (fun m v7 wr => ∃ (t : Nat) (kk : Int), t ≤ k - (n + 1) ∧ v7 = .int .i64 kk ∧ Hid (kk = (k : Int) - 1 - t) ∧ Hid (RowB wr g k (dvh X Y n (k - t))) ∧ Hid (m = k - (n + 1) - t) ∧ Ex w wr)
      case atStart => exact ⟨0, (k : Int) - 1, by omega, rfl, Lib.hid (by omega), Lib.hid (hR.out.congr fun j hj => (dvh_start X Y n k hj).symm), Lib.hid rfl, hx⟩
      case round =>
        obtain ⟨t, kk, ht, rfl, hkk, hR2, hm2, hx2⟩ := hrel
        by_cases htt : t < k - (n + 1)
        · obtain ⟨i, rfl⟩ : ∃ i : Nat, kk = (i : Int) := ⟨kk.toNat, by have := hkk.out; omega⟩
          have hi : i = k - 1 - t := by have := hkk.out; omega
          have hik : i < k := by omega
          have hin : n + 1 ≤ i := by omega
          have HI : Hid (k - t = i + 1 ∧ k - (t + 1) = i) := Lib.hid (by omega)
          have hst := dvh_step X Y hin
          have hd1 : dvh X Y n (k - t) i = dv X Y n i := by unfold dvh; rw [if_neg (by omega)]
          have hd2 : dvh X Y n (k - t) (i - 1) = dv X Y n (i - 1) := by unfold dvh; rw [if_neg (by omega)]
          obtain ⟨s, hs⟩ : ∃ s, i - 1 = s := ⟨_, rfl⟩
          obtain ⟨u, hu⟩ : ∃ u, i - (n + 1) = u := ⟨_, rfl⟩
          have p1 := hx2.cell (HA.out i hik)
          have p2 := hx2.cell (HA.out u (by omega))
          have p3 := hR2.out.1 i hik
          have p4 := hR2.out.1 s (by omega)
          have hfz := hR2.out.2 i
          rw [hd1] at p3
          rw [← hs, hd2, hs] at p4
          rw [hs, hu] at hst
          rw [hs] at hd2
          have es : (i : Int) - 1 = (s : Int) := by omega
          have eu : (i : Int) - ((n : Int) + 1) = (u : Int) := by omega
          obtain ⟨xi, hxi⟩ : ∃ x, X i = x := ⟨_, rfl⟩
          obtain ⟨xu, hxu⟩ : ∃ x, X u = x := ⟨_, rfl⟩
          obtain ⟨di, hdi⟩ : ∃ x, dv X Y n i = x := ⟨_, rfl⟩
          obtain ⟨ds, hds⟩ : ∃ x, dv X Y n s = x := ⟨_, rfl⟩
          rw [hds] at p4
          rw [hxi] at p1 hst
          rw [hxu] at p2 hst
          rw [hdi] at p3 hst
          rw [hds] at hst
          have xil := xi.lt
          have xul := xu.lt
          have dil := di.lt
          have dsl := ds.lt
          have HU : Hid (∀ w, Calls Try.prog 103 #[.int .u8 (bits .xor .u8 ((xi.v : Nat) : Int) ((xu.v : Nat) : Int))] w (Says (.int .u8 ((((xi + xu).inv).v : Nat) : Int)) w)) := Lib.hid fun w => by
            rw [xor_u8_nat xi.v xu.v xi.lt xu.lt]
            exact undo_any (xi + xu).v w (xi + xu).lt
          obtain ⟨V, hV⟩ : ∃ V, (xi + xu).inv = V := ⟨_, rfl⟩
          rw [hV] at HU hst
          have Vl := V.lt
          have HT : Hid (∀ w, Calls Try.prog 102 #[.int .u8 (bits .xor .u8 ((di.v : Nat) : Int) ((ds.v : Nat) : Int)), .int .u8 ((V.v : Nat) : Int)] w (Says (.int .u8 ((((di + ds) * V).v : Nat) : Int)) w)) := Lib.hid fun w => by
            rw [xor_u8_nat di.v ds.v di.lt ds.lt]
            exact times_any (di + ds).v V.v w (di + ds).lt V.lt
          obtain ⟨Q, hQ⟩ : ∃ Q, (di + ds) * V = Q := ⟨_, rfl⟩
          rw [hQ] at HT hst
          have Ql := Q.lt
          have HST := Lib.hid hst
          have hsk : s < k := by omega
          have huk : u < k := by omega
          have g2 : decide ((n : Int) + 1 ≤ (i : Int)) = true := decide_eq_true (by omega)
          have HSI := Lib.hid es
          have k1 : ∀ x : Kp (fun w2 => Ex wr w2), x.val.cell? ⟨bA, oA + i, none⟩ = some (.int .u8 ((xi.v : Nat) : Int)) := fun x => x.ok.cell p1
          have k2 : ∀ x : Kp (fun w2 => Ex wr w2), x.val.cell? ⟨bA, oA + u, none⟩ = some (.int .u8 ((xu.v : Nat) : Int)) := fun x => x.ok.cell p2
          have k3 : ∀ x : Kp (fun w2 => Ex wr w2), x.val.cell? ⟨g, i, none⟩ = some (.int .u8 ((di.v : Nat) : Int)) := fun x => x.ok.cell p3
          have k4 : ∀ x : Kp (fun w2 => Ex wr w2), x.val.cell? ⟨g, s, none⟩ = some (.int .u8 ((ds.v : Nat) : Int)) := fun x => x.ok.cell p4
          haveI : Nonempty (Kp (fun w2 => Ex wr w2)) := ⟨⟨wr, Ex.refl wr⟩⟩
          have hd : Ex wr wr.drew := (Ex.refl wr).drew
          clear hst hd1 hd2 hi hs hu hxi hxu hdi hds hV hQ p1 p2 p4 hin
          go_wp2
          refine wp_region_scrT (fun w2 => ∃ x : Kp (fun w2 => Ex wr w2), w2 = x.val) 26 (.take 0 (.take 1 (.take 2 (.take 3 (.take 4 (.take 5 (.take 6 (.take 7 (.take 8 (.take 9 (.take 10 (.take 11 (.take 12 (.take 13 (.take 14 (.take 15 (.take 16 (.take 17 (.take 18 (.take 19 (.take 20 (.take 21 (.take 22 (.one 23 (.one 24 (.take 25 (.fin))))))))))))))))))))))))))) (by kernel_rfl) (by kernel_rfl) (by intro _ _ d _ _ h; cases d <;> exact h) ⟨⟨_, (by first | exact hd | exact hd.trans hw5 | exact (hd.trans hw5).trans hw6)⟩, rfl⟩ ?_
          generalize wr.drew = wd at hd ⊢
          simp only [fillS, List.getD_cons_zero, List.getD_cons_succ]
          repeat' (first
            | ((with_reducible refine wpScr_pure ?_); go_big_quiet_step (fail); (with_reducible refine scrQ_on ?_))
            | ((with_reducible refine wpScr_turn ?_); intro K hK; go_wp2_with (first | fail |(go_at_call 103; (with_reducible refine (HU.out _).mono ?_); rintro e w5 ⟨rfl, hw5⟩) | (go_at_call 102; (with_reducible refine (HT.out _).mono ?_); rintro e w6 ⟨rfl, hw6⟩)); refine hK _ _ ⟨⟨_, (by first | exact hd | exact hd.trans hw5 | exact (hd.trans hw5).trans hw6)⟩, rfl⟩ ?_; clear hK K)
            | (with_reducible refine wpScr_two ?_ ?_)
            | (with_reducible refine wpScr_three ?_ ?_ ?_)
            | (with_reducible refine wpScr_nil ?_))
          all_goals simp only [tailQ, List.drop_succ_cons, List.drop_zero]
          have hx6 := (hd.trans hw5).trans hw6
          have p3b := hx6.cell p3
          have hR6 := hR2.out.ex hk hx6
          have hfz6 := hR6.2 i
          have HRS : Hid (RowB (w6.setCell ⟨g, i, none⟩ (.int .u8 ((Q.v : Nat) : Int))) g k (dvh X Y n (k - (t + 1)))) := Lib.hid ((hR6.set hik Q).congr fun j _ => by
            rw [HI.out.1, HI.out.2, ← HST.out j])
          have HXS := Lib.hid ((hx2.trans hx6).setCell (p := ⟨g, i, none⟩) hg1 (.int .u8 ((Q.v : Nat) : Int)))
          clear k1 k2 k3 k4 hR6 p3 hfz
          go_wp2
          go_roundg (k - (n + 1) - (t + 1))
          case measure => have := hm2.out; omega
          case rel => exact ⟨t + 1, (s : Int), by omega, by go_num, Lib.hid (by have := HSI.out; have := hkk.out; omega), HRS, Lib.hid rfl, HXS.out⟩
        · have e : t = k - (n + 1) := by omega
          obtain rfl : kk = (n : Int) := by have := hkk.out; omega
          have HRE : Hid (RowB wr g k (dv X Y (n + 1))) := Lib.hid (hR2.out.congr fun j _ => by
            rw [e, show k - (k - (n + 1)) = n + 1 by omega, dvh_end])
          clear hR2 e
          go_wp2
          go_roundg (k - 1 - (n + 1))
          case measure => have := hm.out; omega
          case rel => exact ⟨n + 1, by omega, by go_num, HRE, Lib.hid rfl, hx2⟩
    · have e : n = k - 1 := by omega
      have g1 : decide ((n : Int) + 1 < (k : Int)) = false := decide_eq_false (by omega)
      have HRE : Hid (RowB wr g k (dv X Y (k - 1))) := Lib.hid (by rw [← e]; exact hR.out)
      clear hR e
      go_wp2
      go_ret
      exact ⟨g, c, rfl, HRE, hx⟩

theorem cell_one8 (w : World) (x : Value) (T : TypeId) : (w.alloc (.cells #[x] T)).cell? ⟨w.heap.size, 0, none⟩ = some x := by simp
set_option maxRecDepth 100000 in
set_option maxHeartbeats 1000000 in
theorem rowOf_any (X Y : Nat → E) (k n ca cb : Nat) (a b : Option Addr) (w : World) (hk : 1 ≤ k) (hk2 : k ≤ 20) (hn : 1 ≤ n) (hn2 : n ≤ 20) (ha : ReadsF w a k X) (hb : ReadsF w b k Y) :
    Calls Try.prog 16 #[.slice a k ca, .slice b k cb, .int .i64 (n : Int)] w (fun e w2 => ∃ g c, e = .returned (.slice (some ⟨g, 0, none⟩) n c) ∧ Hid (n ≤ c ∧ c ≤ 9223372036854775807) ∧ Hid (RowB w2 g n (fun t => nv X Y k (bn t))) ∧ Ex w w2) := by
  have HST := Lib.hid (steps_any X Y k ca cb a b w hk hk2 ha hb)
  have HTH := Lib.hid fun w2 g c t (k1 : Ex w w2) (h : RowB w2 g k (dv X Y (k - 1))) => through_any X (dv X Y (k - 1)) (bn t) k ca c a (some ⟨g, 0, none⟩) w2 hk hk2 (ha.ex k1) ⟨g, 0, rfl, fun j hj => by rw [Nat.zero_add]; exact h.1 j hj⟩
  clear ha hb
  go_enter Try.func16, Try.ntmps16
  go_wp2_with (go_at_call 54; (with_reducible refine (HST.out).mono ?_); rintro e w1 ⟨g1, c1, rfl, hr1, hw1⟩)
  go_loopg [8, 14] n (fun m v8 v14 wr => ∃ (i : Nat) (v : Value), i ≤ n ∧ v8 = v ∧ v14 = .int .i64 (i : Int) ∧ Hid (Row 5 .u8 wr w1.heap.size v (bl (fun t => nv X Y k (bn t)) i)) ∧ Hid (m = n - i) ∧ Ex w1 wr)
  case atStart => exact ⟨0, _, by omega, rfl, rfl, Lib.hid (Row.nil _ _ _ _), Lib.hid rfl, Ex.refl _⟩
  case round =>
    obtain ⟨i, v, hi, rfl, rfl, hRow, hm, hx⟩ := hrel
    by_cases hlt : i < n
    · have ht := HTH.out wr g1 c1 i (hw1.trans hx) (hr1.out.ex hk hx)
      rw [show ((((bn i).v : Nat)) : Int) = (i : Int) by rw [bn_v (by omega)]] at ht
      have hbl := bl_snoc (fun t => nv X Y k (bn t)) i
      have ht2 : Calls Try.prog 55 #[.slice a k ca, .slice (some ⟨g1, 0, none⟩) k c1, .int .u8 (i : Int)] wr (Says (.int .u8 (((nv X Y k (bn i)).v : Nat) : Int)) wr) := ht
      obtain ⟨Q, hQ⟩ : ∃ Q, nv X Y k (bn i) = Q := ⟨_, rfl⟩
      rw [hQ] at ht2
      have HT := Lib.hid ht2
      have Ql := Q.lt
      have HBL : Hid (bl (fun t => nv X Y k (bn t)) i ++ [((Q.v : Nat) : Int)] = bl (fun t => nv X Y k (bn t)) (i + 1)) := Lib.hid (by rw [← hbl, ← hQ])
      clear ht ht2 hbl hQ
      go_wp2_with (first
        | (go_at_call 55; (with_reducible refine (HT.out).mono ?_); rintro e w2 ⟨rfl, hw2⟩
           have c1' := cell_one8 w2 (.int .u8 ((Q.v : Nat) : Int)) 5
           have HXw := Lib.hid ((hx.trans hw2).alloc (.cells #[.int .u8 ((Q.v : Nat) : Int)] 5))
           have HRA := Lib.hid ((hRow.out.ex hw2).ex ((Ex.refl w2).alloc (.cells #[.int .u8 ((Q.v : Nat) : Int)] 5))))
        | (at_builtin; refine wpList_append_int rfl _ _ 22 rfl w1.heap.size 5 .u8 1 Try.underlying22 info_u8 _ (bl (fun t => nv X Y k (bn t)) i) rfl HRA.out ((Q.v : Nat) : Int) w2.heap.size rfl c1' (by rw [bl_length]; unfold maxLen; omega) (by rw [bl_length]; omega) HXw.out.size ?_
           intro v1 w3 hown3 hgrow3 hat3
           have HX3 := Lib.hid (HRA.out.grown HXw.out hgrow3)
           rw [HBL.out] at hown3
           have HR3 := Lib.hid hown3
           clear hown3 hgrow3 hat3 c1'))
      go_roundg (n - (i + 1))
      case measure => have := hm.out; omega
      case rel => exact ⟨i + 1, _, by omega, rfl, by go_num, HR3, Lib.hid rfl, HX3.out⟩
    · have e : i = n := by omega
      subst e
      obtain ⟨g, c, rfl, h1, h2, h3, h4, h5⟩ := hRow.out.rowB hn
      unfold maxLen at h4
      have HRB := Lib.hid h5
      clear hRow h5
      go_wp2
      go_ret
      exact ⟨g, c, rfl, Lib.hid ⟨h3, by omega⟩, HRB, hw1.trans hx⟩

end Go.Proofs.Ythlnbomapfjphaa
