/-
  Package cyclic as it landed: subtract, remainder.
-/
import Derived.Test.YtlpnopliblaknaaCyCode
namespace Go.Proofs.Ytlpnopliblaknaa
open Go.RowKit
open Ln Cy

namespace Cy
theorem lf_self {b : List Bool} (h : IsBy b) : lf b b = 0 := by
  have ht := h.top
  have hlast := h.last
  have hlo := h.lo
  obtain ⟨k, e⟩ := List.getLast?_eq_some_iff.mp hlast
  have hkl : k.length = dg' b := by rw [dg', e, List.length_append, List.length_singleton, Nat.add_sub_cancel]
  have hv : vl 0 k < 2 ^ dg' b := by
    have := vl_lt k 0
    rw [hkl] at this
    simpa using this
  have hg : gn b = 2 * vl 0 k + 1 := by
    rw [gn, e, vl_append]
    rfl
  unfold lf
  have : rs (dg' b) (gn b) 0 b = st (dg' b) (gn b) (rs (dg' b) (gn b) 0 k) true := by
    conv => lhs; arg 4; rw [e]
    rw [rs_append]
    rfl
  rw [this, rs_few k 0 hv]
  unfold st
  have hge := ht.1
  have e2 : 2 * vl 0 k + true.toNat = gn b := hg.symm
  rw [e2, if_neg (by omega), Nat.xor_self]
theorem rs_noughts (d g t : Nat) (l : List Bool) : rs d g 0 (List.replicate t false ++ l) = rs d g 0 l := by
  rw [rs_append, rs_zero]
theorem lf_ext {b : List Bool} (h : IsBy b) (n t : Nat) : lf b (ext n t b) = 0 := by
  unfold lf ext
  rw [List.append_assoc, rs_noughts, rs_append]
  have := lf_self h
  unfold lf at this
  rw [this, rs_zero]
theorem lf_sub {b K : List Bool} (h : IsBy b) {o : Nat} (ho : o + b.length ≤ K.length) : lf b (tn K b o) = lf b K := by
  rw [tn_zip ho, lf_zip h (by rw [ext_length ho]), lf_ext h, Nat.xor_zero]
theorem tn_get {l b : List Bool} {A j : Nat} (hj : j < l.length) : (tn l b A).getD j false = tnF l b A b.length j := by
  rw [bits_get (by rw [tn_length]; exact hj)]
  simp only [tn, List.getElem_map, List.getElem_range]
theorem tn_head {K b : List Bool} (h : IsBy b) {o : Nat} (ho : o + b.length ≤ K.length) (h1 : K.getD o false = true) (h0 : ∀ j, j < o → K.getD j false = false) : ∀ j, j < o + 1 → (tn K b o).getD j false = false := by
  intro j hj
  have hlo := h.lo
  rw [tn_get (by omega)]
  unfold tnF
  by_cases e : j = o
  · subst e
    have := h.head
    rw [List.head?_eq_getElem?] at this
    rw [h1, decide_eq_true (by omega), Nat.sub_self, List.getD_eq_getElem?_getD, this]
    rfl
  · rw [h0 j (by omega), decide_eq_false (by omega)]
    rfl
/-- What is left at the end are the bits of what is left. -/
theorem lf_end {b K : List Bool} (h : IsBy b) {o : Nat} (ho : o + dg' b = K.length) (h0 : ∀ j, j < o → K.getD j false = false) : (List.range (dg' b)).map (fun j => K.getD (o + j) false) = ck (dg' b) (lf b K) := by
  have ht := h.top
  have hK : K = List.replicate o false ++ (List.range (dg' b)).map (fun j => K.getD (o + j) false) := by
    apply List.ext_getElem
    · simp; omega
    · intro j h1 h2
      by_cases hj : j < o
      · rw [List.getElem_append_left (by simpa using hj), List.getElem_replicate, ← bits_get h1]
        exact h0 j hj
      · rw [List.getElem_append_right (by simpa using hj)]
        simp only [List.getElem_map, List.getElem_range, List.length_replicate]
        rw [← bits_get h1, show o + (j - o) = j by omega]
  obtain ⟨R, hR⟩ : ∃ R, (List.range (dg' b)).map (fun j => K.getD (o + j) false) = R := ⟨_, rfl⟩
  have hl : R.length = dg' b := by rw [← hR]; simp
  rw [hR] at hK ⊢
  have hv : vl 0 R < 2 ^ dg' b := by
    have := vl_lt R 0
    rw [hl] at this
    simpa using this
  have e : lf b K = vl 0 R := by
    unfold lf
    conv => lhs; arg 4; rw [hK]
    rw [rs_noughts, rs_few R 0 hv]
  rw [e]
  have h2 := vl_ck (dg' b) (vl 0 R) hv
  exact (vl_one R (ck (dg' b) (vl 0 R)) 0 0 (by rw [hl, ck_length]) h2.symm).2
end Cy

theorem RowT.congr {w : World} {g L : Nat} {F H : Nat → Bool} (h : RowT w g L F) (he : ∀ j, j < L → F j = H j) : RowT w g L H := fun j hj => by rw [← he j hj]; exact h j hj
theorem RowT.ex {w w2 : World} {g L : Nat} {F : Nat → Bool} (h : RowT w g L F) (hx : Ex w w2) : RowT w2 g L F := fun j hj =>
  ⟨hx.cell (h j hj).1, (Below.frozen (p := ⟨g, j, none⟩) hx (World.block_lt_of_cell? w ⟨g, j, none⟩ (h j hj).1)).trans (h j hj).2⟩

theorem conv_backO {F : Nat → Bool} {g o L cap : Nat} {w : World} (h : ∀ j, j < L → w.cell? ⟨g, o + j, none⟩ = some (.int .u8 (bv (F j)))) : (convert 22 9 (.slice (some ⟨g, o, none⟩) L cap)).run Try.prog w = .ok (.string (tx ((List.range L).map F))) w := by
  have hl : (((List.range L).map F).map bc).length = L := by simp
  have := run_convert_bytes_back (P := Try.prog) w 22 9 5 ⟨g, o, none⟩ cap (((List.range L).map F).map bc) Try.underlying22 Try.underlying5 Try.underlying9 fun j hj => by
    rw [hl] at hj
    have h1 := h j hj
    have e : (⟨g, o, none⟩ : Addr).add j = ⟨g, o + j, none⟩ := by unfold Addr.add; split <;> simp_all
    rw [e, h1]
    simp only [List.getElem_map, List.getElem_range]
    rw [bc_nat]
  rw [hl] at this
  exact this

theorem bits_idx {b : List Bool} {i : Nat} (h : i < b.length) (w : World) : (Instr.index 9 (.string (tx b)) (.int .i64 (i : Int))).run Try.prog w = .ok (.int .u8 (if b.getD i false = true then 49 else 48)) w := by
  have h2 : i < (tx b).size := by rw [tx_size]; exact h
  have := bat_idx (tx b) i h2 w
  rw [this, bat_tx h]
  by_cases e : b.getD i false = true
  · rw [if_pos e, if_pos e]; rfl
  · rw [if_neg e, if_neg e]; rfl

set_option maxRecDepth 100000 in
set_option maxHeartbeats 1000000 in
theorem cySub_any {K b : List Bool} {g o n c : Nat} {w : World} (hK : K.length ≤ 232) (hn : o + n = K.length) (hb : b.length ≤ n) (hR0 : RowT w g K.length (fun j => K.getD j false)) :
    Calls Try.prog 31 #[.slice (some ⟨g, o, none⟩) n c, .string (tx b)] w (fun e w2 => e = .returned (.tuple #[]) ∧ Hid (Mo1 g w w2) ∧ Hid (RowT w2 g K.length (fun j => (tn K b o).getD j false))) := by
  have hrow0 : Hid (RowT w g K.length (tnF K b o 0)) := Lib.hid (hR0.congr fun j _ => (tnF_zero K b o j).symm)
  have hbs := tx_size b
  have HIX := Lib.hid fun (i : Nat) (h : i < b.length) w => bits_idx h w
  have HEND : Hid (∀ w2, RowT w2 g K.length (tnF K b o b.length) → RowT w2 g K.length (fun j => (tn K b o).getD j false)) := Lib.hid fun w2 h => h.congr fun j hj => (tn_get hj).symm
  obtain ⟨B, hB⟩ : ∃ B, b.length = B := ⟨_, rfl⟩
  obtain ⟨L, hL⟩ : ∃ L, K.length = L := ⟨_, rfl⟩
  rw [hB] at hbs hb HIX HEND
  rw [hL] at hK hn hrow0 HEND ⊢
  clear hR0 hB hL
  go_enter Try.func31, Try.ntmps31
  go_wp2
  go_loopg [7] B (fun k v7 wr => ∃ i : Nat, i ≤ B ∧ v7 = .int .i64 (i : Int) ∧ Hid (RowT wr g L (tnF K b o i)) ∧ Hid (k = B - i) ∧ Hid (Mo1 g w wr))
  case atStart => exact ⟨0, by omega, rfl, hrow0, Lib.hid rfl, Lib.hid (Mo1.refl _ _)⟩
  case round =>
    obtain ⟨i, hi, rfl, hR, hk, hm⟩ := hrel
    by_cases hlt : i < B
    · have hidx := HIX.out i hlt
      have hst := tnF_step K b o i
      by_cases hb : b.getD i false = true
      · rw [if_pos hb] at hidx
        have hc := hR.out (o + i) (by omega)
        obtain ⟨q1, q2⟩ := hc
        have ht := bv_turn (tnF K b o i (o + i))
        obtain ⟨X, hX⟩ : ∃ X, bv (tnF K b o i (o + i)) = X := ⟨_, rfl⟩
        obtain ⟨Y, hY⟩ : ∃ Y, bv (!tnF K b o i (o + i)) = Y := ⟨_, rfl⟩
        have hX2 : 48 ≤ X ∧ X ≤ 49 := by rw [← hX]; exact bv_two _
        have hrs := hR.out.set (i := o + i) (by omega) (!tnF K b o i (o + i))
        rw [hY] at ht hrs
        rw [hX] at ht q1
        have HRS : Hid (RowT (wr.setCell ⟨g, o + i, none⟩ (.int .u8 Y)) g L (tnF K b o (i + 1))) := Lib.hid (by
          have e : tnF K b o (i + 1) = fun j => if j = o + i then !tnF K b o i (o + i) else tnF K b o i j := funext fun j => by
            rw [hst j]
            by_cases e : j = o + i
            · rw [if_pos e, if_pos e, e, hb, Bool.xor_true]
            · rw [if_neg e, if_neg e]
          rw [e]
          exact hrs)
        have HXS := Lib.hid (hm.out.set (o + i) (.int .u8 Y))
        clear hst hb hX hY hrs
        go_wp2_with (simp only [hidx])
        go_roundg (B - (i + 1))
        case measure => have := hk.out; omega
        case rel => exact ⟨i + 1, by omega, by go_num, HRS, Lib.hid rfl, HXS⟩
      · rw [if_neg hb] at hidx
        have HRS : Hid (RowT wr g L (tnF K b o (i + 1))) := Lib.hid (by
          have e : tnF K b o (i + 1) = tnF K b o i := funext fun j => by
            rw [hst j]
            have hb2 : b.getD i false = false := by simpa using hb
            by_cases e : j = o + i
            · rw [if_pos e, hb2, Bool.xor_false]
            · rw [if_neg e]
          rw [e]
          exact hR.out)
        clear hst hb
        go_wp2_with (simp only [hidx])
        go_roundg (B - (i + 1))
        case measure => have := hk.out; omega
        case rel => exact ⟨i + 1, by omega, by go_num, HRS, Lib.hid rfl, hm⟩
    · have e : i = B := by omega
      subst e
      have HE := Lib.hid (HEND.out _ hR.out)
      go_wp2
      go_end0
      exact ⟨rfl, hm, HE⟩

set_option maxRecDepth 100000 in
set_option maxHeartbeats 1000000 in
theorem cyRem_any {l b : List Bool} {w : World} (hb : IsBy b) (hl : dg' b ≤ l.length) (hl2 : l.length ≤ 216) :
    Calls Try.prog 19 #[.string (tx l), .string (tx b)] w (Says (.string (tx (ck (dg' b) (lf b l)))) w) := by
  obtain ⟨w1, cap, hcv, hx1, hrow, hcap⟩ := conv_tx l w
  have hlo := hb.lo
  have hhi := hb.hi
  have HCL : Hid (∀ w, Calls Try.prog 21 #[.string (tx b)] w (Says (.int .i64 ((dg' b : Nat) : Int)) w)) := Lib.hid fun w => by
    have := cyLen_any (tx b) w (by rw [tx_size]; unfold maxLen; omega)
    rw [tx_size] at this
    rwa [show ((dg' b : Nat) : Int) = (b.length : Int) - 1 by unfold dg'; omega]
  have HSB : Hid (∀ (K : List Bool) (o n c : Nat) (wr : World), K.length = l.length → o + n = K.length → dg' b < n → RowT wr w.heap.size l.length (fun j => K.getD j false) → Calls Try.prog 31 #[.slice (some ⟨w.heap.size, o, none⟩) n c, .string (tx b)] wr (fun e w2 => e = .returned (.tuple #[]) ∧ Hid (Mo1 w.heap.size wr w2) ∧ Hid (RowT w2 w.heap.size l.length (fun j => (tn K b o).getD j false)))) := Lib.hid fun K o n c wr h1 h2 h3 h4 => by
    have := cySub_any (K := K) (b := b) (g := w.heap.size) (o := o) (n := n) (c := c) (w := wr) (by omega) h2 (by unfold dg' at h3; omega) (by rw [h1]; exact h4)
    rwa [h1] at this
  have HSTEP : Hid (∀ (K : List Bool) (o : Nat), K.length = l.length → o + dg' b < K.length → K.getD o false = true → (∀ j, j < o → K.getD j false = false) → lf b K = lf b l → (tn K b o).length = l.length ∧ lf b (tn K b o) = lf b l ∧ ∀ j, j < o + 1 → (tn K b o).getD j false = false) := Lib.hid fun K o h1 h2 h3 h4 h5 => by
    have ho : o + b.length ≤ K.length := by unfold dg' at h2; omega
    exact ⟨by rw [tn_length, h1], by rw [lf_sub hb ho, h5], tn_head hb ho h3 h4⟩
  have HEND : Hid (∀ (K : List Bool) (o : Nat), K.length = l.length → o + dg' b = K.length → (∀ j, j < o → K.getD j false = false) → lf b K = lf b l → (List.range (dg' b)).map (fun j => K.getD (o + j) false) = ck (dg' b) (lf b l)) := Lib.hid fun K o h1 h2 h3 h4 => by rw [lf_end hb h2 h3, h4]
  have HBK : Hid (∀ (F : Nat → Bool) (g o n cap : Nat) (w : World), (∀ j, j < n → w.cell? ⟨g, o + j, none⟩ = some (.int .u8 (bv (F j)))) → _) := Lib.hid fun F g o n cap w h => conv_backO (cap := cap) h
  have hrowl : Hid (lf b l = lf b l) := Lib.hid rfl
  have hbd := hb.deg
  obtain ⟨d, hd⟩ : ∃ d, dg' b = d := ⟨_, rfl⟩
  obtain ⟨R, hR⟩ : ∃ R, lf b l = R := ⟨_, rfl⟩
  obtain ⟨L, hL⟩ : ∃ L, l.length = L := ⟨_, rfl⟩
  obtain ⟨g, hg⟩ : ∃ g, w.heap.size = g := ⟨_, rfl⟩
  rw [hd] at HCL HSB HSTEP HEND hl hbd ⊢
  rw [hR] at HSTEP HEND ⊢
  rw [hL] at hl hl2 hcv hcap hrow HSB HSTEP HEND
  rw [hg] at hcv hrow HSB
  have HG := Lib.hid hg
  have HL := Lib.hid hL
  have HR := Lib.hid hR
  clear hd hR hL hg hrowl hlo hhi hb
  go_enter Try.func19, Try.ntmps19
  go_wp2
  go_loopg [5] L (fun k v5 wr => ∃ (o n c : Nat) (K : List Bool), o + n = L ∧ d ≤ n ∧ n ≤ c ∧ v5 = .slice (some ⟨g, o, none⟩) n c ∧ Hid (K.length = L) ∧ Hid (lf b K = R) ∧ Hid (∀ j, j < o → K.getD j false = false) ∧ Hid (RowT wr g L (fun j => K.getD j false)) ∧ Hid (k = n) ∧ Ex w wr)
  case atStart => exact ⟨0, L, cap, l, by omega, hl, hcap, rfl, HL, HR, Lib.hid fun j hj => by omega, hrow, Lib.hid rfl, hx1.out⟩
  case round =>
    obtain ⟨o, n, c, K, hon, hdn, hnc, rfl, hKl, hKf, hK0, hRow, hk, hx⟩ := hrel
    by_cases hlt : d < n
    · have hq : wr.cell? ⟨g, o, none⟩ = some (.int .u8 (bv (K.getD o false))) := (hRow.out o (by omega)).1
      cases e : K.getD o false with
      | true =>
        rw [e] at hq
        have hq2 : bv true = 49 := rfl
        rw [hq2] at hq
        obtain ⟨s1, s2, s3⟩ := HSTEP.out K o hKl.out (by rw [hKl.out]; omega) e hK0.out hKf.out
        have S1 := Lib.hid s1
        have S2 := Lib.hid s2
        have S3 := Lib.hid s3
        have HSU := Lib.hid fun w2 (h : Ex wr w2) => HSB.out K o n c w2 hKl.out (by rw [hKl.out]; exact hon) hlt (hRow.out.ex h)
        clear s1 s2 s3 e
        go_wp2_with (first
          | (go_at_call 21; (with_reducible refine (HCL.out _).mono ?_); rintro e w2 ⟨rfl, hw2⟩; have hq := hw2.cell hq)
          | (go_at_call 31; (with_reducible refine (HSU.out _ hw2).mono ?_); rintro e w3 ⟨rfl, hm3, hr3⟩))
        go_roundg (n - 1)
        case measure => have := hk.out; omega
        case rel => exact ⟨o + 1, n - 1, c - 1, tn K b o, by omega, by omega, by omega, by go_num, S1, S2, S3, hr3, Lib.hid rfl, Mo1.ex (hx.trans hw2) hm3.out (by rw [HG.out]; exact Nat.le_refl _)⟩
      | false =>
        rw [e] at hq
        have hq2 : bv false = 48 := rfl
        rw [hq2] at hq
        have S3 : Hid (∀ j, j < o + 1 → K.getD j false = false) := Lib.hid fun j hj => by
          by_cases e2 : j = o
          · rw [e2]; exact e
          · exact hK0.out j (by omega)
        have HRX := Lib.hid fun w2 (h : Ex wr w2) => hRow.out.ex h
        clear e
        go_wp2_with (go_at_call 21; (with_reducible refine (HCL.out _).mono ?_); rintro e w2 ⟨rfl, hw2⟩; have hq := hw2.cell hq)
        go_roundg (n - 1)
        case measure => have := hk.out; omega
        case rel => exact ⟨o + 1, n - 1, c - 1, K, by omega, by omega, by omega, by go_num, hKl, hKf, S3, Lib.hid (HRX.out _ hw2), Lib.hid rfl, hx.trans hw2⟩
    · have e : n = d := by omega
      subst e
      have HE := Lib.hid (HEND.out K o hKl.out (by rw [hKl.out]; exact hon) hK0.out hKf.out)
      have HB2 : Hid (∀ w2, Ex wr w2 → (convert 22 9 (.slice (some ⟨g, o, none⟩) n c)).run Try.prog w2 = .ok (.string (tx (ck n R))) w2) := Lib.hid fun w2 h => by
        have := HBK.out (fun j => K.getD (o + j) false) g o n c w2 fun j hj => (hRow.out.ex h (o + j) (by omega)).1
        rwa [HE.out] at this
      go_wp2_with (go_at_call 21; (with_reducible refine (HCL.out _).mono ?_); rintro e w2 ⟨rfl, hw2⟩; have hbk := HB2.out _ hw2)
      go_ret
      exact ⟨rfl, hx.trans hw2⟩

end Go.Proofs.Ytlpnopliblaknaa
