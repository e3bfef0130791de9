/-
  linear.Dual.
-/
import Derived.Test.YtgmhbkfjabmkgaaLnBaC
namespace Go.Proofs.Ytgmhbkfjabmkgaa
open Go.RowKit
open Ln

namespace Ln
theorem si_sums {n v : Nat} : ∀ {B : List Nat}, (∀ b ∈ B, si n b v = 1) → ∀ w ∈ sums B, si n w v = 1 := by
  intro B
  induction B with
  | nil =>
    intro _ w hw
    rw [sums, List.mem_singleton] at hw
    subst hw
    rw [si_comm, si_zero]
  | cons x B ih =>
    intro h w hw
    have ih2 := ih fun b hb => h b (List.mem_cons_of_mem _ hb)
    rcases mem_sums.mp hw with h1 | h1
    · exact ih2 w h1
    · have h2 := ih2 _ h1
      have h3 := h x List.mem_cons_self
      rw [si_comm, si_xor, si_comm n v x, h3, Int.one_mul, si_comm] at h2
      exact h2
/-- Even with the basis is even with all. -/
theorem ev_bs {n : Nat} {W : List Nat} (h : Cd n W) (hn : n ≤ 16) (v : Nat) : Ev n (bs W) v = Ev n W v := by
  rw [Bool.eq_iff_iff, ev_iff, ev_iff]
  exact ⟨fun h1 w hw => si_sums h1 w ((bs_sums h hn w).mp hw), fun h1 b hb => h1 b (bs_mem h hn b hb)⟩
theorem du_bs {n : Nat} {W : List Nat} (h : Cd n W) (hn : n ≤ 16) : du n (bs W) = du n W := by
  unfold du
  exact List.filter_congr fun v _ => ev_bs h hn v
end Ln

theorem entered_ev2 : Entered Try.prog 53 := fun _ _ => by kernel_rfl

set_option maxHeartbeats 1000000 in
theorem ev2_any (x v bx : Nat) (w : World) (hx : x < 65536) (hv : v < 65536) (hbx : w.cell? ⟨bx, 0, none⟩ = some (.int .u16 (v : Int))) :
    Calls Try.prog 53 (#[.int .u16 (x : Int)] ++ #[.pointer (some ⟨bx, 0, none⟩)]) w (Says (.bool (decide (on 16 (v &&& x) % 2 = 1))) w) := by
  have hlt : v &&& x < 2 ^ 16 := Nat.and_lt_two_pow _ (by omega)
  have ho := on_le 16 (v &&& x)
  have HO : Hid (∀ w, Calls Try.prog 37 #[.int .u16 (bits .and .u16 (v : Int) (x : Int))] w (Says (.int .i64 ((on 16 (v &&& x) : Nat) : Int)) w)) := Lib.hid fun w => by
    rw [and_u16_nat v x hv hx]
    exact ones16_any (v &&& x) w (by omega)
  obtain ⟨o, hoo⟩ : ∃ o, on 16 (v &&& x) = o := ⟨_, rfl⟩
  rw [hoo] at HO ho ⊢
  clear hoo hlt
  by_cases h1 : o % 2 = 1
  · have hd : decide (o % 2 = 1) = true := decide_eq_true h1
    rw [hd]
    have g1 : ((o : Int) % 2 == 1) = true := beq_iff_eq.mpr (by omega)
    go_enter Try.func53, Try.ntmps53
    go_wp2_with (go_at_call 37; (with_reducible refine (HO.out _).mono ?_); rintro e w2 ⟨rfl, hw2⟩)
    go_ret
    exact ⟨rfl, hw2⟩
  · have hd : decide (o % 2 = 1) = false := decide_eq_false h1
    rw [hd]
    have g1 : ((o : Int) % 2 == 1) = false := beq_eq_false_iff_ne.mpr (by omega)
    go_enter Try.func53, Try.ntmps53
    go_wp2_with (go_at_call 37; (with_reducible refine (HO.out _).mono ?_); rintro e w2 ⟨rfl, hw2⟩)
    go_ret
    exact ⟨rfl, hw2⟩

set_option maxHeartbeats 1000000 in
theorem ev1_any {n L : Nat} {B : List Nat} {a : Option Addr} {ca : Nat} (s bb : Nat) (w : World) (h12 : n ≤ 12) (hL : B.length = L) (hL4 : L ≤ 4096) (hB : ∀ x ∈ B, x < 65536) (hs : s < 2 ^ n) (hr : Reads w .u16 a (il B)) (hbb : w.cell? ⟨bb, 0, none⟩ = some (.slice a L ca)) :
    Calls Try.prog 52 (#[.int .u16 (s : Int)] ++ #[.pointer (some ⟨bb, 0, none⟩)]) w (Says (.bool (Ev n B s)) w) := by
  have hs4 : 2 ^ n ≤ 2 ^ 12 := Nat.pow_le_pow_right (by decide) h12
  have e : anyP (fun i => decide (on 16 (s &&& B.getD i 0) % 2 = 1)) L = !Ev n B s := by
    have hon : ∀ x, on 16 (s &&& x) = on n (x &&& s) := fun x => by
      rw [Nat.and_comm]
      exact on_up n 16 _ (Nat.and_lt_two_pow _ hs) (by omega)
    cases h : Ev n B s
    · unfold Ev at h
      rw [List.all_eq_false] at h
      obtain ⟨x, hx1, hx2⟩ := h
      obtain ⟨i, hi, rfl⟩ := List.getElem_of_mem hx1
      refine anyP_yes (k := i) (by omega) (decide_eq_true ?_)
      rw [List.getD_eq_getElem?_getD, List.getElem?_eq_getElem hi, hon]
      show on n (B[i] &&& s) % 2 = 1
      have : ¬ on n (B[i] &&& s) % 2 = 0 := by simpa using hx2
      omega
    · unfold Ev at h
      rw [List.all_eq_true] at h
      refine anyP_no fun i hi => decide_eq_false ?_
      rw [List.getD_eq_getElem?_getD, List.getElem?_eq_getElem (by omega), hon]
      show ¬ on n (B[i] &&& s) % 2 = 1
      have := h _ (List.getElem_mem (show i < B.length by omega))
      have : on n (B[i] &&& s) % 2 = 0 := by simpa using this
      omega
  have hd : ∀ i, i < L → nth (il B) i = ((B.getD i 0 : Nat) : Int) ∧ B.getD i 0 < 65536 := fun i hi => by
    rw [il_nth (by omega), List.getD_eq_getElem?_getD, List.getElem?_eq_getElem (by omega)]
    exact ⟨rfl, hB _ (List.getElem_mem _)⟩
  have HX := Lib.hid ((Ex.refl w).alloc (.cells #[.int .u16 (s : Int)] 33))
  have HC : Hid (Calls Try.prog 29 #[.slice a L ca, .func (.func 53) #[] #[.pointer (some ⟨w.heap.size, 0, none⟩)]] (w.alloc (.cells #[.int .u16 (s : Int)] 33)) (Says (.bool (!Ev n B s)) (w.alloc (.cells #[.int .u16 (s : Int)] 33)))) := Lib.hid (by
    rw [← e]
    refine wrds_contains 53 #[.pointer (some ⟨w.heap.size, 0, none⟩)] (fun i => decide (on 16 (s &&& B.getD i 0) % 2 = 1)) (fun i => .int .u16 (nth (il B) i)) L a ca _ (by unfold maxLen; omega) (ReadsV.of (hr.ex HX.out) (by rw [il_length]; exact hL)) entered_ev2 fun i hi w6 k => ?_
    dsimp only
    rw [(hd i hi).1]
    exact ev2_any _ s w.heap.size w6 (hd i hi).2 (by omega) (k.cell (box_one w _ _)))
  have q1 := HX.out.cell hbb
  generalize Ev n B s = r at HC ⊢
  clear hr e hd hB hbb hL
  cases r
  · have HC2 : Hid (Calls Try.prog 29 #[.slice a L ca, .func (.func 53) #[] #[.pointer (some ⟨w.heap.size, 0, none⟩)]] (w.alloc (.cells #[.int .u16 (s : Int)] 33)) (Says (.bool true) (w.alloc (.cells #[.int .u16 (s : Int)] 33)))) := HC
    clear HC
    go_enter Try.func52, Try.ntmps52
    go_wp2_with (go_at_call 29; (with_reducible refine (HC2.out).mono ?_); rintro e w2 ⟨rfl, hw2⟩)
    go_ret
    exact ⟨rfl, HX.out.trans hw2⟩
  · have HC2 : Hid (Calls Try.prog 29 #[.slice a L ca, .func (.func 53) #[] #[.pointer (some ⟨w.heap.size, 0, none⟩)]] (w.alloc (.cells #[.int .u16 (s : Int)] 33)) (Says (.bool false) (w.alloc (.cells #[.int .u16 (s : Int)] 33)))) := HC
    clear HC
    go_enter Try.func52, Try.ntmps52
    go_wp2_with (go_at_call 29; (with_reducible refine (HC2.out).mono ?_); rintro e w2 ⟨rfl, hw2⟩)
    go_ret
    exact ⟨rfl, HX.out.trans hw2⟩

set_option maxRecDepth 100000 in
set_option maxHeartbeats 2000000 in
theorem wordsWith_any {n L M : Nat} {B : List Nat} {xs : List Int} {a : Option Addr} {ca bb : Nat} {w : World} (h12 : n ≤ 12) (hL : B.length = L) (hL4 : L ≤ 4096) (hB : ∀ x ∈ B, x < 65536) (hX : il (du n B) = xs) (hM : xs.length = M) (hr : Reads w .u16 a (il B)) (hbb : w.cell? ⟨bb, 0, none⟩ = some (.slice a L ca)) :
    Calls Try.prog 41 #[.int .i64 (n : Int), .func (.func 52) #[] #[.pointer (some ⟨bb, 0, none⟩)]] w (fun e w2 => ∃ a2 c2, e = .returned (.slice a2 M c2) ∧ Hid (M ≤ c2 ∧ c2 ≤ 9223372036854775807) ∧ Hid (Reads w2 .u16 a2 xs) ∧ Ex w w2) := by
  obtain ⟨N, hN⟩ : ∃ N, 2 ^ n = N := ⟨_, rfl⟩
  have hN1 : N ≤ 4096 := by rw [← hN]; exact Nat.le_trans (Nat.pow_le_pow_right (n := 2) (by decide) h12) (by decide)
  have HPW : Hid (IntKind.u16.wrap ((2 : Int) ^ n) = (N : Int)) := Lib.hid (by
    rw [show ((2 : Int) ^ n) = ((2 ^ n : Nat) : Int) by rw [Int.natCast_pow]; rfl, hN]
    exact IntWalk.u16_in _ (by omega))
  have HEV : Hid (∀ (s : Nat) (w2 : World), s < N → Ex w w2 → Calls Try.prog 52 (#[.int .u16 (s : Int), .pointer (some ⟨bb, 0, none⟩)]) w2 (Says (.bool (Ev n B s)) w2)) := Lib.hid fun s w2 hs hx =>
    ev1_any s bb w2 h12 hL hL4 hB (by rw [hN]; exact hs) (hr.ex hx) (hx.cell hbb)
  have HX := Lib.hid hX
  have HM := Lib.hid hM
  have HDU : Hid (dup n B N = du n B) := Lib.hid (by rw [← hN]; rfl)
  clear hr hL hB hX hM hN hbb
  go_enter Try.func41, Try.ntmps41
  go_wp2
  rw [HPW.out]
  go_loopg [5, 9] N (fun k v5 v9 wr => ∃ (s : Nat) (v : Value), s ≤ N ∧ v5 = v ∧ v9 = .int .u16 (s : Int) ∧ Hid (Row 33 .u16 wr w.heap.size v (il (dup n B s))) ∧ Hid (k = N - s) ∧ Ex w wr)
  case atStart => exact ⟨0, _, by omega, rfl, rfl, Lib.hid (Row.nil _ _ _ _), Lib.hid rfl, Ex.refl _⟩
  case round =>
    obtain ⟨s, v, hs, rfl, rfl, hRow, hk, hx⟩ := hrel
    by_cases hlt : s < N
    · have HE := Lib.hid (HEV.out s wr hlt hx)
      have HLE := Lib.hid (dup_le n B s)
      by_cases hev : Ev n B s = true
      · rw [hev] at HE
        have HS : Hid (il (dup n B s) ++ [(s : Int)] = il (dup n B (s + 1))) := Lib.hid (by rw [dup_yes hev, il_append]; rfl)
        clear hev
        go_upto_region 6 with (go_at_call 52; (with_reducible refine (HE.out).mono ?_); rintro e w2 ⟨rfl, hw2⟩)
        have c1 := box_one w2 (.int .u16 (s : Int)) 33
        have HXw := Lib.hid ((hx.trans hw2).alloc (.cells #[.int .u16 (s : Int)] 33))
        have HRA := Lib.hid ((hRow.out.ex hw2).ex ((Ex.refl w2).alloc (.cells #[.int .u16 (s : Int)] 33)))
        go_wp2_with (at_builtin; refine wpList_append_int rfl _ _ 22 rfl w.heap.size 33 .u16 2 Try.underlying22 info_word2 _ (il (dup n B s)) rfl HRA.out (s : Int) w2.heap.size rfl c1 (by have := HLE.out; rw [il_length]; unfold maxLen; omega) (by have := HLE.out; rw [il_length]; omega) HXw.out.size ?_
                     intro v1 w3 hown3 hgrow3 hat3
                     have HX3 := Lib.hid (HRA.out.grown HXw.out hgrow3)
                     rw [HS.out] at hown3
                     have HR3 := Lib.hid hown3
                     clear hown3 hgrow3 hat3 c1)
        go_roundg (N - (s + 1))
        case measure => have := hk.out; omega
        case rel => exact ⟨s + 1, _, by omega, rfl, by go_num, HR3, Lib.hid rfl, HX3.out⟩
      · have hev2 : Ev n B s = false := by simpa using hev
        rw [hev2] at HE
        have HS := Lib.hid (dup_no hev)
        clear hev hev2
        go_wp2_with (go_at_call 52; (with_reducible refine (HE.out).mono ?_); rintro e w2 ⟨rfl, hw2⟩)
        go_roundg (N - (s + 1))
        case measure => have := hk.out; omega
        case rel => exact ⟨s + 1, _, by omega, rfl, by go_num, Lib.hid (by rw [HS.out]; exact hRow.out.ex hw2), Lib.hid rfl, hx.trans hw2⟩
    · have e : s = N := by omega
      subst e
      have hF := hRow.out.reads
      rw [HDU.out, HX.out] at hF
      obtain ⟨a2, cap, rfl, h1, h2, _⟩ := hF
      have hF2 := hRow.out.form
      rw [HDU.out, HX.out] at hF2
      have HCC : Hid (xs.length ≤ cap ∧ cap ≤ 9223372036854775807) := Lib.hid (by
        rcases hF2 with ⟨e1, e2⟩ | ⟨g, c2, e1, _, _, e4, e5, _⟩
        · simp only [Value.slice.injEq] at e1
          rw [e2]
          have := e1.2.2
          exact ⟨Nat.zero_le _, by omega⟩
        · simp only [Value.slice.injEq] at e1
          unfold maxLen at e5
          rw [e1.2.2]
          exact ⟨e4, by omega⟩)
      have HRD := Lib.hid h2
      rw [HM.out] at HCC ⊢
      clear hF2 h1 h2 hRow
      go_wp2
      go_ret
      exact ⟨_, cap, rfl, HCC, HRD, hx⟩

set_option maxHeartbeats 1000000 in
theorem evenWith_any (a : Option Addr) (L ca : Nat) (w : World) :
    Calls Try.prog 42 #[.slice a L ca] w (fun e w2 => ∃ bb, e = .returned (.func (.func 52) #[] #[.pointer (some ⟨bb, 0, none⟩)]) ∧ Hid (w2.cell? ⟨bb, 0, none⟩ = some (.slice a L ca)) ∧ Ex w w2) := by
  have HB := Lib.hid (box_one w (.slice a L ca) 22)
  have HX := Lib.hid ((Ex.refl w).alloc (.cells #[.slice a L ca] 22))
  go_enter Try.func42, Try.ntmps42
  go_wp2
  go_ret
  exact ⟨_, rfl, HB, HX.out⟩

set_option maxHeartbeats 1000000 in
theorem dual_no {n : Int} {z : List Int} {a : Option Addr} {la ca : Nat} {w : World} (ha : IsInts .u16 2 w a la ca z) (hn : (Lit.int .i64 n).wf = true) (h0 : duE n z ≠ 0) : Calls Try.prog 22 #[.int .i64 n, .slice a la ca] w (Nil2 (duE n z) w) := by
  by_cases h1 : lnE n z = 0
  · obtain ⟨m, l, rfl, hm, hl, m1, m12, hlL, la6, hac, hcb, hlt, hz, hr⟩ := ln_in ha h1
    unfold duE at h0 ⊢
    rw [if_neg (by simpa using h1), Int.toNat_natCast, ← hl] at h0 ⊢
    by_cases h6 : 6 < (m : Int) - ((bs (cw m l)).length : Int)
    · rw [if_pos h6]
      have HB := Lib.hid (base_ok (ca := ca) m1 m12 hlL la6 hlt rfl rfl hr)
      have hle := bs_le (cw_cd hlt) (show m ≤ 16 by omega)
      rw [il_length] at HB
      obtain ⟨K, hK⟩ : ∃ K, (bs (cw m l)).length = K := ⟨_, rfl⟩
      rw [hK] at HB h6 hle
      clear ha hn h0 h1 hm hl hlL hlt hz hr hK
      go_enter Try.func22, Try.ntmps22
      go_wp2_with (go_at_call 11; (with_reducible refine (HB.out).mono ?_); rintro e w2 ⟨a2, c2, rfl, hc2, hR2, hw2⟩)
      go_ret2
      exact ⟨_, _, rfl, hw2⟩
    · rw [if_neg h6] at h0
      exact absurd rfl h0
  · have e : duE n z = lnE n z := by unfold duE; rw [if_pos h1]
    rw [e]
    have HC := Lib.hid (base_no ha hn h1)
    obtain ⟨t, ht⟩ : ∃ t, lnE n z = t := ⟨_, rfl⟩
    rw [ht] at HC h1 ⊢
    have q1 : (t != 0) = true := by simpa using h1
    clear ha hn ht e h0
    go_enter Try.func22, Try.ntmps22
    go_wp2_with (go_at_call 11; (with_reducible refine (HC.out).mono ?_); rintro e w2 ⟨a2, c2, rfl, hw2⟩)
    go_ret2
    exact ⟨_, _, rfl, hw2⟩

set_option maxHeartbeats 1000000 in
theorem dual_ok {n L M : Nat} {l : List Nat} {xs : List Int} {a : Option Addr} {ca : Nat} {w : World} (h1 : 1 ≤ n) (h12 : n ≤ 12) (hL : l.length = L) (hL6 : L ≤ 6) (hl : ∀ x ∈ l, x < 2 ^ n) (h6 : n - (bs (cw n l)).length ≤ 6) (hX : il (bs (du n (cw n l))) = xs) (hM : xs.length = M) (hr : Reads w .u16 a (il l)) :
    Calls Try.prog 22 #[.int .i64 (n : Int), .slice a L ca] w (Vec3 .u16 M xs w) := by
  have hcd := cw_cd hl
  have hle := bs_le hcd (show n ≤ 16 by omega)
  have HB := Lib.hid (base_ok (ca := ca) h1 h12 hL hL6 hl rfl rfl hr)
  obtain ⟨W, hW⟩ : ∃ W, cw n l = W := ⟨_, rfl⟩
  rw [hW] at hcd hle HB h6 hX
  have hbl := bs_lt hcd (show n ≤ 16 by omega)
  have hb16 : ∀ x ∈ bs W, x < 65536 := fun x hx => by
    have := hbl x hx
    have : 2 ^ n ≤ 2 ^ 12 := Nat.pow_le_pow_right (by decide) h12
    omega
  have hdb := du_bs hcd (show n ≤ 16 by omega)
  obtain ⟨hD1, hD2⟩ := du_small h12 W
  have hdc := du_cd n W
  have hdl := du_lt n W
  rw [il_length] at HB
  obtain ⟨K, hK⟩ : ∃ K, (bs W).length = K := ⟨_, rfl⟩
  obtain ⟨D, hD⟩ : ∃ D, (du n W).length = D := ⟨_, rfl⟩
  rw [hK] at HB h6 hle
  rw [hD] at hD2
  have HEW := Lib.hid fun a L ca w2 => evenWith_any a L ca w2
  have HWW := Lib.hid fun w2 a2 c2 bb (h : Reads w2 .u16 a2 (il (bs W))) (k : w2.cell? ⟨bb, 0, none⟩ = some (.slice a2 K c2)) => wordsWith_any (n := n) (M := D) h12 hK (by omega) hb16 (by rw [hdb]) (by rw [il_length]; exact hD) h k
  have HBA := Lib.hid fun w2 a2 c2 (h : Reads w2 .u16 a2 (il (du n W))) => basis_any (ca := c2) h12 hD hD2 hdc hdl hX hM h
  clear hl hL hW hK hD hcd hX hM hr hbl hb16 hdb hD1 hdc hdl
  go_enter Try.func22, Try.ntmps22
  go_wp2_with (first
    | (go_at_call 11; (with_reducible refine (HB.out).mono ?_); rintro e w2 ⟨a2, c2, rfl, hc2, hR2, hw2⟩)
    | (go_at_call 42; (with_reducible refine (HEW.out _ _ _ _).mono ?_); rintro e w3 ⟨bb, rfl, hcb, hw3⟩
       have hR3 := hR2.out.ex hw3)
    | (go_at_call 41; (with_reducible refine (HWW.out _ _ _ _ hR3 hcb.out).mono ?_); rintro e w4 ⟨a4, c4, rfl, hc4, hR4, hw4⟩)
    | (go_at_call 36; (with_reducible refine (HBA.out _ _ _ hR4.out).mono ?_); rintro e w5 ⟨a5, c5, rfl, hc5, hR5, hw5⟩))
  go_ret2
  exact ⟨_, _, rfl, hc5, hR5, ((hw2.trans hw3).trans hw4).trans hw5⟩

theorem dualC : DualC := by
  constructor
  · intro n z a la ca w ha hn h0
    exact dual_no ha hn h0
  · intro n L M l xs a ca w h1 h12 hL hL6 _ _ hl h6 hX hM hr
    exact dual_ok h1 h12 hL hL6 hl h6 hX hM hr

end Go.Proofs.Ytgmhbkfjabmkgaa
