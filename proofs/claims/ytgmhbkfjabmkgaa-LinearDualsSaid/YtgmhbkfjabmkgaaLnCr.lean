/-
  wholeref.Crosswise.
-/
import Derived.Test.YtgmhbkfjabmkgaaLnErr
import Derived.Test.YtgmhbkfjabmkgaaLnOnes
import Derived.Test.YtgmhbkfjabmkgaaLnBsO
import Derived.Deep.CutRange
import Derived.Deep.DeepCutAuto
namespace Go.Proofs.Ytgmhbkfjabmkgaa
open Go.RowKit
open Ln

namespace Ln
/-- Those of the first s words that are even with all. -/
def dup (n : Nat) (W : List Nat) (s : Nat) : List Nat := (List.range s).filter (Ev n W)
theorem dup_yes {n : Nat} {W : List Nat} {s : Nat} (h : Ev n W s = true) : dup n W (s + 1) = dup n W s ++ [s] := by unfold dup; rw [List.range_succ, List.filter_append, List.filter_cons_of_pos h]; rfl
theorem dup_no {n : Nat} {W : List Nat} {s : Nat} (h : ¬ Ev n W s = true) : dup n W (s + 1) = dup n W s := by unfold dup; rw [List.range_succ, List.filter_append, List.filter_cons_of_neg h]; simp
theorem dup_le (n : Nat) (W : List Nat) (s : Nat) : (dup n W s).length ≤ s := by
  have := List.length_filter_le (Ev n W) (List.range s)
  rw [List.length_range] at this
  exact this
end Ln

theorem entered_cw1 : Entered Try.prog 43 := fun _ _ => by kernel_rfl

set_option maxHeartbeats 1000000 in
theorem cw1_any (x v bx : Nat) (w : World) (hx : x < 65536) (hv : v < 65536) (hbx : w.cell? ⟨bx, 0, none⟩ = some (.int .u16 (v : Int))) :
    Calls Try.prog 43 (#[.int .u16 (x : Int)] ++ #[.pointer (some ⟨bx, 0, none⟩)]) w (Says (.bool (decide (on 16 (v &&& x) % 2 = 1))) w) := by
  have hlt : v &&& x < 2 ^ 16 := Nat.and_lt_two_pow _ (by omega)
  have ho := on_le 16 (v &&& x)
  have HO : Hid (∀ w, Calls Try.prog 17 #[.int .i64 (wrap64 (bits .and .u16 (v : Int) (x : Int)))] w (Says (.int .i64 ((on 16 (v &&& x) : Nat) : Int)) w)) := Lib.hid fun w => by
    rw [and_u16_nat v x hv hx, IntWalk.wrap64_in _ (by omega)]
    exact ones_any (v &&& x) w (by omega)
  obtain ⟨o, hoo⟩ : ∃ o, on 16 (v &&& x) = o := ⟨_, rfl⟩
  rw [hoo] at HO ho ⊢
  clear hoo hlt
  by_cases h1 : o % 2 = 1
  · have hd : decide (o % 2 = 1) = true := decide_eq_true h1
    rw [hd]
    have g1 : ((o : Int) % 2 == 1) = true := beq_iff_eq.mpr (by omega)
    go_enter Try.func43, Try.ntmps43
    go_wp2_with (go_at_call 17; (with_reducible refine (HO.out _).mono ?_); rintro e w2 ⟨rfl, hw2⟩)
    go_ret
    exact ⟨rfl, hw2⟩
  · have hd : decide (o % 2 = 1) = false := decide_eq_false h1
    rw [hd]
    have g1 : ((o : Int) % 2 == 1) = false := beq_eq_false_iff_ne.mpr (by omega)
    go_enter Try.func43, Try.ntmps43
    go_wp2_with (go_at_call 17; (with_reducible refine (HO.out _).mono ?_); rintro e w2 ⟨rfl, hw2⟩)
    go_ret
    exact ⟨rfl, hw2⟩

set_option maxRecDepth 100000 in
set_option maxHeartbeats 2000000 in
theorem crosswise_any {n L M : Nat} {W : List Nat} {xs : List Int} {a : Option Addr} {ca : Nat} {w : World} (h12 : n ≤ 12) (hL : W.length = L) (hL4 : L ≤ 4096) (hW : ∀ x ∈ W, x < 65536) (hX : il (du n W) = xs) (hM : xs.length = M) (hr : Reads w .u16 a (il W)) :
    Calls Try.prog 23 #[.int .i64 (n : Int), .slice a L ca] w (fun e w2 => ∃ a2 c2, e = .returned (.slice a2 M c2) ∧ Hid (M ≤ c2 ∧ c2 ≤ 9223372036854775807) ∧ Hid (Reads w2 .u16 a2 xs) ∧ Ex w w2) := by
  obtain ⟨N, hN⟩ : ∃ N, 2 ^ n = N := ⟨_, rfl⟩
  have hN1 : N ≤ 4096 := by rw [← hN]; exact Nat.le_trans (Nat.pow_le_pow_right (n := 2) (by decide) h12) (by decide)
  have HPW : Hid (IntKind.u16.wrap ((2 : Int) ^ n) = (N : Int)) := Lib.hid (by
    rw [show ((2 : Int) ^ n) = ((2 ^ n : Nat) : Int) by rw [Int.natCast_pow]; rfl, hN]
    exact IntWalk.u16_in _ (by omega))
  have HCF : Hid (∀ s w2 bx, s < N → Ex w w2 → w2.cell? ⟨bx, 0, none⟩ = some (.int .u16 (s : Int)) → Calls Try.prog 29 #[.slice a L ca, .func (.func 43) #[] #[.pointer (some ⟨bx, 0, none⟩)]] w2 (Says (.bool (!Ev n W s)) w2)) := Lib.hid fun s w2 bx hs hx hbx => by
    have e : anyP (fun i => decide (on 16 (s &&& W.getD i 0) % 2 = 1)) L = !Ev n W s := by
      have hon : ∀ x, on 16 (s &&& x) = on n (x &&& s) := fun x => by
        rw [Nat.and_comm]
        exact on_up n 16 _ (Nat.and_lt_two_pow _ (by omega)) (by omega)
      cases h : Ev n W s
      · unfold Ev at h
        rw [List.all_eq_false] at h
        obtain ⟨x, hx1, hx2⟩ := h
        obtain ⟨i, hi, rfl⟩ := List.getElem_of_mem hx1
        refine anyP_yes (k := i) (by omega) (decide_eq_true ?_)
        rw [List.getD_eq_getElem?_getD, List.getElem?_eq_getElem hi, hon]
        show on n (W[i] &&& s) % 2 = 1
        have : ¬ on n (W[i] &&& s) % 2 = 0 := by simpa using hx2
        omega
      · unfold Ev at h
        rw [List.all_eq_true] at h
        refine anyP_no fun i hi => decide_eq_false ?_
        rw [List.getD_eq_getElem?_getD, List.getElem?_eq_getElem (by omega), hon]
        show ¬ on n (W[i] &&& s) % 2 = 1
        have := h _ (List.getElem_mem (show i < W.length by omega))
        have : on n (W[i] &&& s) % 2 = 0 := by simpa using this
        omega
    rw [← e]
    have hd : ∀ i, i < L → nth (il W) i = ((W.getD i 0 : Nat) : Int) ∧ W.getD i 0 < 65536 := fun i hi => by
      rw [il_nth (by omega), List.getD_eq_getElem?_getD, List.getElem?_eq_getElem (by omega)]
      exact ⟨rfl, hW _ (List.getElem_mem _)⟩
    refine wrds_contains 43 #[.pointer (some ⟨bx, 0, none⟩)] (fun i => decide (on 16 (s &&& W.getD i 0) % 2 = 1)) (fun i => .int .u16 (nth (il W) i)) L a ca _ (by unfold maxLen; omega) (ReadsV.of (hr.ex hx) (by rw [il_length]; exact hL)) entered_cw1 fun i hi w6 k => ?_
    dsimp only
    rw [(hd i hi).1]
    exact cw1_any _ s bx w6 (hd i hi).2 (by omega) (k.cell hbx)
  have HX := Lib.hid hX
  have HM := Lib.hid hM
  have HDU : Hid (dup n W N = du n W) := Lib.hid (by rw [← hN]; rfl)
  have HN := Lib.hid hN
  clear hr hL hW hX hM hN
  go_enter Try.func23, Try.ntmps23
  go_wp2
  rw [HPW.out]
  go_loopg [5, 9] N (fun k v5 v9 wr => ∃ (s : Nat) (v : Value), s ≤ N ∧ v5 = v ∧ v9 = .int .u16 (s : Int) ∧ Hid (Row 33 .u16 wr w.heap.size v (il (dup n W s))) ∧ Hid (k = N - s) ∧ Ex w wr)
  case atStart => exact ⟨0, _, by omega, rfl, rfl, Lib.hid (Row.nil _ _ _ _), Lib.hid rfl, Ex.refl _⟩
  case round =>
    obtain ⟨s, v, hs, rfl, rfl, hRow, hk, hx⟩ := hrel
    by_cases hlt : s < N
    · have cb := box_one wr (.int .u16 (s : Int)) 33
      have HXb := Lib.hid (hx.alloc (.cells #[.int .u16 (s : Int)] 33))
      have HXc := Lib.hid ((Ex.refl wr).alloc (.cells #[.int .u16 (s : Int)] 33))
      have HC := Lib.hid (HCF.out s _ wr.heap.size hlt HXb.out cb)
      have HR0 := Lib.hid (hRow.out.ex HXc.out)
      have HLE := Lib.hid (dup_le n W s)
      by_cases hev : Ev n W s = true
      · rw [hev] at HC
        have HC2 : Hid (Calls Try.prog 29 #[.slice a L ca, .func (.func 43) #[] #[.pointer (some ⟨wr.heap.size, 0, none⟩)]] (wr.alloc (.cells #[.int .u16 (s : Int)] 33)) (Says (.bool false) (wr.alloc (.cells #[.int .u16 (s : Int)] 33)))) := HC
        have HS : Hid (il (dup n W s) ++ [(s : Int)] = il (dup n W (s + 1))) := Lib.hid (by rw [dup_yes hev, il_append]; rfl)
        clear hev HC
        go_upto_region 6 with (go_at_call 29; (with_reducible refine (HC2.out).mono ?_); rintro e w2 ⟨rfl, hw2⟩)
        have cb2 := hw2.cell cb
        have c1 := box_one w2 (.int .u16 (s : Int)) 33
        have HXw := Lib.hid ((HXb.out.trans hw2).alloc (.cells #[.int .u16 (s : Int)] 33))
        have HRA := Lib.hid ((HR0.out.ex hw2).ex ((Ex.refl w2).alloc (.cells #[.int .u16 (s : Int)] 33)))
        go_wp2_with (at_builtin; refine wpList_append_int rfl _ _ 22 rfl w.heap.size 33 .u16 2 Try.underlying22 info_word2 _ (il (dup n W s)) rfl HRA.out (s : Int) w2.heap.size rfl c1 (by have := HLE.out; rw [il_length]; unfold maxLen; omega) (by have := HLE.out; rw [il_length]; omega) HXw.out.size ?_
                     intro v1 w3 hown3 hgrow3 hat3
                     have HX3 := Lib.hid (HRA.out.grown HXw.out hgrow3)
                     rw [HS.out] at hown3
                     have HR3 := Lib.hid hown3
                     clear hown3 hgrow3 hat3 c1)
        go_roundg (N - (s + 1))
        case measure => have := hk.out; omega
        case rel => exact ⟨s + 1, _, by omega, rfl, by go_num, HR3, Lib.hid rfl, HX3.out⟩
      · have hev2 : Ev n W s = false := by simpa using hev
        rw [hev2] at HC
        have HC2 : Hid (Calls Try.prog 29 #[.slice a L ca, .func (.func 43) #[] #[.pointer (some ⟨wr.heap.size, 0, none⟩)]] (wr.alloc (.cells #[.int .u16 (s : Int)] 33)) (Says (.bool true) (wr.alloc (.cells #[.int .u16 (s : Int)] 33)))) := HC
        have HS := Lib.hid (dup_no hev)
        clear hev hev2 HC
        go_wp2_with (go_at_call 29; (with_reducible refine (HC2.out).mono ?_); rintro e w2 ⟨rfl, hw2⟩)
        go_roundg (N - (s + 1))
        case measure => have := hk.out; omega
        case rel => exact ⟨s + 1, _, by omega, rfl, by go_num, Lib.hid (by rw [HS.out]; exact HR0.out.ex hw2), Lib.hid rfl, HXb.out.trans hw2⟩
    · have e : s = N := by omega
      subst e
      have hF := hRow.out.reads
      rw [HDU.out, HX.out] at hF
      obtain ⟨a2, cap, rfl, h1, h2, _⟩ := hF
      have hF2 := hRow.out.form
      rw [HDU.out, HX.out] at hF2
      have HCC : Hid (xs.length ≤ cap ∧ cap ≤ 9223372036854775807) := Lib.hid (by
        rcases hF2 with ⟨e1, e2⟩ | ⟨g, c2, e1, _, _, e4, e5, _⟩
        · simp only [Value.slice.injEq] at e1
          rw [e2]
          have := e1.2.2
          exact ⟨Nat.zero_le _, by omega⟩
        · simp only [Value.slice.injEq] at e1
          unfold maxLen at e5
          rw [e1.2.2]
          exact ⟨e4, by omega⟩)
      have HRD := Lib.hid h2
      rw [HM.out] at HCC ⊢
      clear hF2 h1 h2 hRow
      go_wp2
      go_ret
      exact ⟨_, cap, rfl, HCC, HRD, hx⟩

end Go.Proofs.Ytgmhbkfjabmkgaa
