/-
  linear.Base: the reduced basis.
-/
import Derived.Test.YthlnbomapfjphaaDoorLnWdC
import Derived.Test.YthlnbomapfjphaaDoorLnBaM
import Derived.Test.YthlnbomapfjphaaDoorLnDual
namespace Go.Proofs.YthlnbomapfjphaaDoor
open Go.RowKit
open Ln So

theorem entered_ba1 : Entered Tryd.prog 57 := fun _ _ => by kernel_rfl

set_option maxHeartbeats 1000000 in
theorem ba1_any (x len bx : Nat) (w : World) (hx : x < 65536) (hl : len ≤ 16) (hbx : w.cell? ⟨bx, 0, none⟩ = some (.int .i64 (len : Int))) :
    Calls Tryd.prog 57 (#[.int .u16 (x : Int)] ++ #[.pointer (some ⟨bx, 0, none⟩)]) w (Says (.bool (decide (Lib.bitLen x = len))) w) := by
  have HL := Lib.hid fun w => len16_any x w hx
  have hB16 := len_le16 hx
  have k1 := so_cell hbx
  obtain ⟨B, hB⟩ : ∃ B, Lib.bitLen x = B := ⟨_, rfl⟩
  rw [hB] at HL hB16 ⊢
  have g1 : ((B : Int) == (len : Int)) = decide (B = len) := by
    by_cases e : B = len
    · subst e; simp
    · rw [decide_eq_false e, beq_eq_false_iff_ne]; omega
  generalize decide (B = len) = r at g1 ⊢
  clear hbx hB
  go_enter Tryd.func57, Tryd.ntmps57
  go_wp2
  refine wp_region_wo (by kernel_rfl) (by kernel_rfl) ?_
  repeat (go_big_quiet_step ((go_at_call 35; exact says_wo (HL.out _))))
  refine wpQuiet_nil ?_
  rintro _ ⟨⟨w2, hw2⟩, rfl⟩
  go_wp2
  go_ret
  exact ⟨by first | rfl | simp [g1], hw2⟩

set_option maxRecDepth 100000 in
set_option maxHeartbeats 2000000 in
theorem basis_any {n L M : Nat} {W : List Nat} {xs : List Int} {a : Option Addr} {ca : Nat} {w : World} (h12 : n ≤ 12) (hL : W.length = L) (hL4 : L ≤ 4096) (hcd : Cd n W) (ho : W.Pairwise (· < ·)) (hX : il (bs W) = xs) (hM : xs.length = M) (hr : Reads w .u16 a (il W)) :
    Calls Tryd.prog 42 #[.int .i64 (n : Int), .slice a L ca] w (fun e w2 => ∃ a2 c2, e = .returned (.slice a2 M c2) ∧ Hid (M ≤ c2 ∧ c2 ≤ 9223372036854775807) ∧ Hid (Reads w2 .u16 a2 xs) ∧ Hid (FullV w2 w.heap.size w2.heap.size (.slice a2 M c2)) ∧ Ex w w2) := by
  have h16 : ∀ x ∈ W, x < 65536 := fun x hx => by
    have := hcd.lt x hx
    have : 2 ^ n ≤ 2 ^ 12 := Nat.pow_le_pow_right (by decide) h12
    omega
  have hd : ∀ i, i < L → nth (il W) i = ((W.getD i 0 : Nat) : Int) ∧ W.getD i 0 < 65536 := fun i hi => by
    rw [il_nth (by omega), List.getD_eq_getElem?_getD, List.getElem?_eq_getElem (by omega)]
    exact ⟨rfl, h16 _ (List.getElem_mem _)⟩
  have HIF : Hid (∀ (len : Nat) (w2 : World) (bx : Nat), len ≤ 16 → Ex w w2 → w2.cell? ⟨bx, 0, none⟩ = some (.int .i64 (len : Int)) → Calls Tryd.prog 56 #[.slice a L ca, .func (.func 57) #[] #[.pointer (some ⟨bx, 0, none⟩)]] w2 (Says (.int .i64 (firstP (fun i => decide (Lib.bitLen (W.getD i 0) = len)) L)) w2)) := Lib.hid fun len w2 bx hlen hx hbx => by
    refine wrds_index 57 #[.pointer (some ⟨bx, 0, none⟩)] (fun i => decide (Lib.bitLen (W.getD i 0) = len)) (fun i => .int .u16 (nth (il W) i)) L a ca _ (by unfold maxLen; omega) (ReadsV.of (hr.ex hx) (by rw [il_length]; exact hL)) entered_ba1 fun i hi w6 k => ?_
    dsimp only
    rw [(hd i hi).1]
    exact ba1_any _ len bx w6 (hd i hi).2 hlen (k.cell hbx)
  have HR : Hid (∀ i, i < L → ∃ g o, a = some ⟨g, o, none⟩ ∧ w.cell? ⟨g, o + i, none⟩ = some (.int .u16 ((W.getD i 0 : Nat) : Int))) := Lib.hid fun i hi => by
    rcases hr with h | ⟨g, o, h1, h2⟩
    · have := congrArg List.length h
      rw [il_length] at this
      have : W.length = 0 := this
      omega
    · have := h2 i (by rw [il_length]; omega)
      rw [(hd i hi).1] at this
      exact ⟨g, o, h1, this⟩
  have HN : Hid (∀ len, len < 16 → (∀ j, j < L → decide (Lib.bitLen (W.getD j 0) = len + 1) = false) → il (bp W (16 - len)) = il (bp W (16 - (len + 1)))) := Lib.hid fun len hlen hall => by
    rw [bp_len W hlen, bfw_none fun x hx ht => ?_, List.append_nil]
    obtain ⟨j, hj, rfl⟩ := List.getElem_of_mem hx
    have := of_decide_eq_false (hall j (by omega))
    refine this ?_
    rw [List.getD_eq_getElem?_getD, List.getElem?_eq_getElem hj]
    exact len_top len W[j] ht (by have := h16 _ (List.getElem_mem hj); omega)
  have HS : Hid (∀ len i, len < 16 → i < L → decide (Lib.bitLen (W.getD i 0) = len + 1) = true → (∀ j, j < i → decide (Lib.bitLen (W.getD j 0) = len + 1) = false) → il (bp W (16 - len)) = il (bp W (16 - (len + 1))) ++ [((W.getD i 0 : Nat) : Int)]) := Lib.hid fun len i hlen hi hyes hno => by
    have hget : ∀ j (hj : j < W.length), W.getD j 0 = W[j] := fun j hj => by rw [List.getD_eq_getElem?_getD, List.getElem?_eq_getElem hj]; rfl
    have hi2 : i < W.length := by omega
    have ht : Top len W[i] := by
      have := of_decide_eq_true hyes
      rw [hget i hi2] at this
      exact (len_is (h16 _ (List.getElem_mem hi2)) len).mp this
    obtain ⟨h1, h2⟩ := first_base hcd (by omega) ho hi2 ht fun j hj ht2 => by
      have := of_decide_eq_false (hno j hj)
      rw [hget j (by omega)] at this
      exact this (len_top len _ ht2 (by have := h16 _ (List.getElem_mem (show j < W.length by omega)); omega))
    rw [bp_len W hlen, bfw_some hcd (by omega) h1, ← h2, il_append, hget i hi2]
    rfl
  have HST : Hid (il (bp W (16 - n)) = []) := Lib.hid (by rw [bp_start hcd (by omega)]; rfl)
  have HLE : Hid (∀ m, m ≤ 16 → (il (bp W m)).length ≤ 16) := Lib.hid fun m hm => by
    have := bp_few hcd (by omega) m hm
    rw [il_length]
    omega
  have HX := Lib.hid hX
  have HM := Lib.hid hM
  clear hr hd hL hcd ho h16 hX hM
  go_enter Tryd.func42, Tryd.ntmps42
  have HC0 := Lib.hid (box_one w (.int .i64 (n : Int)) 3)
  have HX0 := Lib.hid ((Ex.refl w).alloc (.cells #[.int .i64 (n : Int)] 3))
  go_wp2
  go_loopg [5, 6] n (fun k v5 v6 wr => ∃ (len b : Nat) (v : Value), len ≤ n ∧ v5 = v ∧ v6 = .pointer (some ⟨b, 0, none⟩) ∧ Hid (wr.cell? ⟨b, 0, none⟩ = some (.int .i64 (len : Int))) ∧ Hid (some b ≠ v.ownBlock) ∧ Hid (Row 39 .u16 wr w.heap.size v (il (bp W (16 - len)))) ∧ Hid (k = len) ∧ Ex w wr)
  case atStart => exact ⟨n, _, _, by omega, rfl, rfl, HC0, Lib.hid (by simp [Value.ownBlock]), Lib.hid (by rw [HST.out]; exact Row.nil _ _ _ _), Lib.hid rfl, HX0.out⟩
  case round =>
    obtain ⟨len, b, v, hlen, rfl, rfl, hc, hb, hRow, hk, hx⟩ := hrel
    have q1 := hc.out
    by_cases hlt : 0 < len
    · obtain ⟨m, rfl⟩ : ∃ m, len = m + 1 := ⟨len - 1, by omega⟩
      have HI := Lib.hid (HIF.out (m + 1) wr b (by omega) hx (by have := hc.out; push_cast; exact this))
      have HNB := Lib.hid fun w2 (k : Ex wr w2) => (show some w2.heap.size ≠ Value.ownBlock _ from fun e => by have := ((hRow.out.ex k).lt _ e.symm).2; omega)
      rcases firstP_cases (fun i => decide (Lib.bitLen (W.getD i 0) = m + 1)) L with ⟨e1, hall⟩ | ⟨i, hi, e1, hyes, hno⟩
      · rw [e1] at HI
        have HE := Lib.hid (HN.out m (by omega) hall)
        clear hall e1
        go_upto_region 8 with (go_at_call 56; (with_reducible refine (HI.out).mono ?_); rintro e w2 ⟨rfl, hw2⟩)
        have q2 := hw2.cell hc.out
        have HC2 := Lib.hid (box_one w2 (.int .i64 (m : Int)) 3)
        have HX2 := Lib.hid ((hx.trans hw2).alloc (.cells #[.int .i64 (m : Int)] 3))
        have HXA := Lib.hid ((Ex.refl w2).alloc (.cells #[.int .i64 (m : Int)] 3))
        have HRA := Lib.hid ((hRow.out.ex hw2).ex HXA.out)
        have HB2 := Lib.hid (HNB.out w2 hw2)
        go_wp2
        go_roundg m
        case measure => have := hk.out; omega
        case rel => exact ⟨m, _, _, by omega, rfl, rfl, HC2, HB2, Lib.hid (by rw [HE.out]; exact HRA.out), Lib.hid rfl, HX2.out⟩
      · rw [e1] at HI
        have hS := HS.out m i (by omega) hi hyes hno
        obtain ⟨g, o, rfl, hci⟩ := HR.out i hi
        obtain ⟨x, hxx⟩ : ∃ x, W.getD i 0 = x := ⟨_, rfl⟩
        rw [hxx] at hS hci
        have HSX := Lib.hid hS
        have hci2 := hx.cell hci
        have HLL := Lib.hid (HLE.out (16 - (m + 1)) (by omega))
        clear hyes hno e1 hxx hS hci
        go_upto_region 7 with (go_at_call 56; (with_reducible refine (HI.out).mono ?_); rintro e w2 ⟨rfl, hw2⟩)
        have q3 := hw2.cell hci2
        have c1 := box_one w2 (.int .u16 (x : Int)) 39
        have HXA := Lib.hid ((Ex.refl w2).alloc (.cells #[.int .u16 (x : Int)] 39))
        have HXw := Lib.hid ((hx.trans hw2).alloc (.cells #[.int .u16 (x : Int)] 39))
        have HRA := Lib.hid ((hRow.out.ex hw2).ex HXA.out)
        have HCB := Lib.hid (HXA.out.cell (hw2.cell hc.out))
        clear hci2 q1
        go_upto_region 8 with (at_builtin; refine wpList_append_int rfl _ _ 38 rfl w.heap.size 39 .u16 2 Tryd.underlying38 info_word _ (il (bp W (16 - (m + 1)))) rfl HRA.out (x : Int) w2.heap.size rfl c1 (by have := HLL.out; unfold maxLen; omega) (by have := HLL.out; omega) HXw.out.size ?_
                               intro v1 w3 hown3 hgrow3 hat3
                               have HX3 := Lib.hid (HRA.out.grown HXw.out hgrow3)
                               rw [← HSX.out] at hown3
                               have HR3 := Lib.hid hown3
                               have HC3 := Lib.hid (hgrow3.cell HCB.out hb.out)
                               clear hown3 hgrow3 hat3 c1)
        have q2 := HC3.out
        have HC4 := Lib.hid (box_one w3 (.int .i64 (m : Int)) 3)
        have HX4 := Lib.hid (HX3.out.alloc (.cells #[.int .i64 (m : Int)] 3))
        have HXB := Lib.hid ((Ex.refl w3).alloc (.cells #[.int .i64 (m : Int)] 3))
        have HRB := Lib.hid (HR3.out.ex HXB.out)
        have HB4 := Lib.hid (show some w3.heap.size ≠ v1.ownBlock from fun e => by have := (HR3.out.lt _ e.symm).2; omega)
        go_wp2
        go_roundg m
        case measure => have := hk.out; omega
        case rel => exact ⟨m, _, _, by omega, rfl, rfl, HC4, HB4, HRB, Lib.hid rfl, HX4.out⟩
    · have e : len = 0 := by omega
      subst e
      have hF := hRow.out.reads
      rw [show bp W (16 - 0) = bs W from bp_all W, HX.out] at hF
      obtain ⟨a2, cap, rfl, h1, h2, _⟩ := hF
      have hF2 := hRow.out.form
      rw [show bp W (16 - 0) = bs W from bp_all W, HX.out] at hF2
      have HCC : Hid (xs.length ≤ cap ∧ cap ≤ 9223372036854775807) := Lib.hid (by
        rcases hF2 with ⟨e1, e2⟩ | ⟨g, c2, e1, _, _, e4, e5, _⟩
        · simp only [Value.slice.injEq] at e1
          rw [e2]
          have := e1.2.2
          exact ⟨Nat.zero_le _, by omega⟩
        · simp only [Value.slice.injEq] at e1
          unfold maxLen at e5
          rw [e1.2.2]
          exact ⟨e4, by omega⟩)
      have HRD := Lib.hid h2
      have HFV := Lib.hid hRow.out.fullV
      rw [HM.out] at HCC HFV ⊢
      clear hF2 h1 h2 hRow hb
      go_wp2
      go_ret
      exact ⟨_, cap, rfl, HCC, HRD, HFV, hx⟩

set_option maxHeartbeats 1000000 in
theorem base_no {n : Int} {z : List Int} {a : Option Addr} {la ca : Nat} {w : World} (ha : IsInts .u16 2 w a la ca z) (hn : (Lit.int .i64 n).wf = true) (h0 : lnE n z ≠ 0) : Calls Tryd.prog 18 #[.int .i64 n, .slice a la ca] w (Nil2 (lnE n z) w) := by
  have HC := Lib.hid (words_no ha hn h0)
  obtain ⟨t, ht⟩ : ∃ t, lnE n z = t := ⟨_, rfl⟩
  rw [ht] at HC h0 ⊢
  have q1 : (t != 0) = true := by simpa using h0
  clear ha hn ht
  go_enter Tryd.func18, Tryd.ntmps18
  go_wp2_with (go_at_call 17; (with_reducible refine (HC.out).mono ?_); rintro e w2 ⟨a2, c2, rfl, hw2⟩)
  go_ret2
  exact ⟨_, _, rfl, hw2⟩

set_option maxHeartbeats 1000000 in
theorem base_full {n L M : Nat} {l : List Nat} {xs : List Int} {a : Option Addr} {ca : Nat} {w : World} (h1 : 1 ≤ n) (h12 : n ≤ 12) (hL : l.length = L) (hL6 : L ≤ 6) (hl : ∀ x ∈ l, x < 2 ^ n) (hX : il (bs (cw n l)) = xs) (hM : xs.length = M) (hr : Reads w .u16 a (il l)) :
    Calls Tryd.prog 18 #[.int .i64 (n : Int), .slice a L ca] w (VecW .u16 M xs w) := by
  have hcd := cw_cd hl
  have ho := cw_lt n l
  have h64 := cw_64 hL hL6 hl
  have HW := words_ok (ca := ca) h1 h12 hL hL6 hl rfl rfl hr
  obtain ⟨W, hW⟩ : ∃ W, cw n l = W := ⟨_, rfl⟩
  rw [hW] at hcd ho h64 HW hX
  obtain ⟨N, hN⟩ : ∃ N, W.length = N := ⟨_, rfl⟩
  rw [il_length, hN] at HW
  have HWO := Lib.hid HW
  have HB := Lib.hid fun w2 a2 c2 (h : Reads w2 .u16 a2 (il W)) => basis_any (ca := c2) h12 hN (by omega) hcd ho hX hM h
  clear hl hL hW hN hcd ho hX hM hr h64 HW
  go_enter Tryd.func18, Tryd.ntmps18
  go_wp2_with (first
    | (go_at_call 17; (with_reducible refine (HWO.out).mono ?_); rintro e w2 ⟨a2, c2, rfl, hc2, hR2, hw2⟩)
    | (go_at_call 42; (with_reducible refine (HB.out _ _ _ hR2.out).mono ?_); rintro e w3 ⟨a3, c3, rfl, hc3, hR3, hF3, hw3⟩))
  go_ret2
  exact ⟨_, _, rfl, hc3, hR3, Lib.hid (hF3.out.less hw2.size (Nat.le_refl _)), hw2.trans hw3⟩

theorem base_ok {n L M : Nat} {l : List Nat} {xs : List Int} {a : Option Addr} {ca : Nat} {w : World} (h1 : 1 ≤ n) (h12 : n ≤ 12) (hL : l.length = L) (hL6 : L ≤ 6) (hl : ∀ x ∈ l, x < 2 ^ n) (hX : il (bs (cw n l)) = xs) (hM : xs.length = M) (hr : Reads w .u16 a (il l)) :
    Calls Tryd.prog 18 #[.int .i64 (n : Int), .slice a L ca] w (Vec3 .u16 M xs w) :=
  (base_full h1 h12 hL hL6 hl hX hM hr).mono fun _ _ h => h.vec

theorem baseC : BaseC := by
  constructor
  · intro n z a la ca w ha hn h0
    exact base_no ha hn h0
  · intro n L M l xs a ca w h1 h12 hL hL6 _ _ hl hX hM hr
    exact base_ok h1 h12 hL hL6 hl hX hM hr

end Go.Proofs.YthlnbomapfjphaaDoor
