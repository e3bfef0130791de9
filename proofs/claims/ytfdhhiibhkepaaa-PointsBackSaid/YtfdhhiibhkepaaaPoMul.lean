/-
  Package poly: Mul.
-/
import Derived.Test.YtfdhhiibhkepaaaPoAdd
namespace Go.Proofs.Ytfdhhiibhkepaaa
open Go.RowKit
open Pr Po

set_option maxRecDepth 100000 in
set_option maxHeartbeats 2000000 in
theorem mul_no (p : Int) (f g : List Int) (a b : Option Addr) (ca cb : Nat) (w : World) (hl : f.length ≤ maxLen) (hr : Reads w .i64 a f) (hl2 : g.length ≤ maxLen) (hr2 : Reads w .i64 b g) (h : bothE p f g ≠ 0) :
    Calls Try.prog 28 #[.int .i64 p, .slice a f.length ca, .slice b g.length cb] w (Says (.tuple #[.slice none 0 0, .int .i64 (bothE p f g)]) w) := by
  have HC := Lib.hid (both_any p f g a b ca cb w hl hr hl2 hr2)
  obtain ⟨c, hc⟩ : ∃ c, bothE p f g = c := ⟨_, rfl⟩
  rw [hc] at HC h ⊢
  have hb : (c != 0) = true := by simpa using h
  clear hl hr hl2 hr2 h hc
  go_enter Try.func28, Try.ntmps28
  go_wp2_with (go_at_call 42; (with_reducible refine (HC.out).mono ?_); rintro e w2 ⟨rfl, hw2⟩)
  go_ret2
  exact ⟨rfl, hw2⟩

set_option maxRecDepth 100000 in
set_option maxHeartbeats 2000000 in
theorem mul_none (p : Int) (f g : List Int) (a b : Option Addr) (ca cb : Nat) (w : World) (hr : Reads w .i64 a f) (hr2 : Reads w .i64 b g) (h : bothE p f g = 0) (h0 : f = [] ∨ g = []) :
    Calls Try.prog 28 #[.int .i64 p, .slice a f.length ca, .slice b g.length cb] w (Says (.tuple #[.slice none 0 0, .int .i64 0]) w) := by
  obtain ⟨_, _, hl, _, hl2, _⟩ := bothE_zero.mp h
  have HC := Lib.hid (both_any p f g a b ca cb w (by unfold maxLen; omega) hr (by unfold maxLen; omega) hr2)
  rw [h] at HC
  clear hr hr2 h
  by_cases hf : f = []
  · subst hf
    obtain ⟨K, hK⟩ : ∃ K, g.length = K := ⟨_, rfl⟩
    rw [show ([] : List Int).length = 0 from rfl, hK] at HC ⊢
    clear h0 hl hl2 hK
    go_enter Try.func28, Try.ntmps28
    go_wp2_with (go_at_call 42; (with_reducible refine (HC.out).mono ?_); rintro e w2 ⟨rfl, hw2⟩)
    go_ret2
    exact ⟨rfl, hw2⟩
  · obtain rfl : g = [] := h0.resolve_left hf
    have hj := List.length_pos_iff.mpr hf
    obtain ⟨K, hK⟩ : ∃ K, f.length = K := ⟨_, rfl⟩
    rw [show ([] : List Int).length = 0 from rfl, hK] at HC ⊢
    rw [hK] at hj hl
    have hb : ((K : Int) == 0) = false := by simp; omega
    clear h0 hl2 hK hf
    go_enter Try.func28, Try.ntmps28
    go_wp2_with (go_at_call 42; (with_reducible refine (HC.out).mono ?_); rintro e w2 ⟨rfl, hw2⟩)
    go_ret2
    exact ⟨rfl, hw2⟩

set_option maxRecDepth 100000 in
set_option maxHeartbeats 2000000 in
theorem mul_large (p : Int) (f g : List Int) (a b : Option Addr) (ca cb : Nat) (w : World) (hr : Reads w .i64 a f) (hr2 : Reads w .i64 b g) (h : bothE p f g = 0) (hf : f ≠ []) (hg : g ≠ []) (hm : 41 < f.length + g.length) :
    Calls Try.prog 28 #[.int .i64 p, .slice a f.length ca, .slice b g.length cb] w (Says (.tuple #[.slice none 0 0, .int .i64 2]) w) := by
  obtain ⟨_, _, hl, _, hl2, _⟩ := bothE_zero.mp h
  have HC := Lib.hid (both_any p f g a b ca cb w (by unfold maxLen; omega) hr (by unfold maxLen; omega) hr2)
  rw [h] at HC
  have hj := List.length_pos_iff.mpr hf
  have hk := List.length_pos_iff.mpr hg
  obtain ⟨J, hJ⟩ : ∃ J, f.length = J := ⟨_, rfl⟩
  obtain ⟨K, hK⟩ : ∃ K, g.length = K := ⟨_, rfl⟩
  rw [hJ] at HC hj hl hm ⊢
  rw [hK] at HC hk hl2 hm ⊢
  have hb1 : ((J : Int) == 0) = false := by simp; omega
  have hb2 : ((K : Int) == 0) = false := by simp; omega
  clear hr hr2 h hf hg hJ hK
  go_enter Try.func28, Try.ntmps28
  go_wp2_with (go_at_call 42; (with_reducible refine (HC.out).mono ?_); rintro e w2 ⟨rfl, hw2⟩)
  go_ret2
  exact ⟨rfl, hw2⟩

set_option maxRecDepth 100000 in
set_option maxHeartbeats 4000000 in
theorem mul_full (p : Int) (f g : List Int) (a b : Option Addr) (ca cb : Nat) (w : World) (hr : Reads w .i64 a f) (hr2 : Reads w .i64 b g) (h : bothE p f g = 0) (hf : f ≠ []) (hg : g ≠ []) (hm : f.length + g.length ≤ 41) :
    Calls Try.prog 28 #[.int .i64 p, .slice a f.length ca, .slice b g.length cb] w (Rowed (red p (mul f g)) w) := by
  obtain ⟨hp, hp9, hl, hcf, hl2, hcg⟩ := bothE_zero.mp h
  have p2 := hp.1
  have HC := Lib.hid (both_any p f g a b ca cb w (by unfold maxLen; omega) hr (by unfold maxLen; omega) hr2)
  rw [h] at HC
  have hj := List.length_pos_iff.mpr hf
  have hk := List.length_pos_iff.mpr hg
  have HRF := Lib.hid fun w2 (hx : Ex w w2) => hr.ex hx
  have HRG := Lib.hid fun w2 (hx : Ex w w2) => hr2.ex hx
  have HFB := Lib.hid fun i => hcf.bnd.at (by omega) i
  have HGB := Lib.hid hcg.bnd
  obtain ⟨M, hM⟩ : ∃ M, f.length + g.length = M + 1 := ⟨f.length + g.length - 1, by omega⟩
  have HEND : Hid (∀ F, (∀ t, t < M → 0 ≤ F t ∧ F t < p) → Cg p (fl M F) (mul (f.take f.length) g) → fl M F = red p (mul f g)) := Lib.hid fun F hF hC => by
    rw [List.take_length] at hC
    refine row_red (by omega) (bnd_fl hF) hC ?_
    rw [red_mul_length hp hcf hcg hf hg, fl_length]
    omega
  have HNEXT : Hid (∀ i F, i < f.length → Cg p (fl M F) (mul (f.take i) g) → Cg p (fl M (addm p F i (nth f i) g g.length)) (mul (f.take (i + 1)) g)) := Lib.hid fun i F hi hC =>
    (addm_cg (by omega)).trans ((Cg.plus hC (nth f i) g i).trans (Cg.of_eq (mul_next hi)))
  have HSTART : Hid (Cg p (fl M fun _ => 0) (mul (f.take 0) g)) := Lib.hid (Cg.of_eq fun i => by
    rw [List.take_zero, c_mul_nil]
    by_cases hi : i < M
    · exact c_fl hi
    · exact c_fl_over (by omega))
  obtain ⟨J, hJ⟩ : ∃ J, f.length = J := ⟨_, rfl⟩
  obtain ⟨K, hK⟩ : ∃ K, g.length = K := ⟨_, rfl⟩
  have HK := Lib.hid hK
  have HJ := Lib.hid hJ
  rw [hJ] at HC hj hl hm hM HEND HNEXT ⊢
  rw [hK] at HC hk hl2 hm hM HNEXT ⊢
  have hb1 : ((J : Int) == 0) = false := by simp; omega
  have hb2 : ((K : Int) == 0) = false := by simp; omega
  have hs : (J : Int) + (K : Int) - 1 = (M : Int) := by omega
  have hM40 : M ≤ 40 := by omega
  clear hr hr2 h hf hg hJ hK hp hcf hcg
  go_enter Try.func28, Try.ntmps28
  go_wp2_with (first
    | (go_at_call 42; (with_reducible refine (HC.out).mono ?_); rintro e w1 ⟨rfl, hw1⟩)
    | (at_make; refine wpList_make_ints rfl _ _ 23 rfl w1.heap.size 3 .i64 8 Try.underlying23 info_int _ _ M rfl rfl (by omega) (by unfold maxLen; omega) (Nat.le_refl _) ?_; intro w2 hown2 hgrow2
       have HX2 : Hid (Ex w1 w2) := Lib.hid (ex_grown (Ex.refl w1) hgrow2 (by intro k hk; cases hk))
       have HR2 : Hid (Row 3 .i64 w2 w1.heap.size (.slice (some ⟨w1.heap.size, 0, none⟩) M M) (fl M fun _ => 0)) := Lib.hid (by rw [fl_zero] at hown2; exact hown2)
       clear hown2 hgrow2))
  have HX1 := Lib.hid hw1
  have HS1 : Hid (w.heap.size ≤ w1.heap.size) := Lib.hid hw1.size
  obtain ⟨b0, hb0⟩ : ∃ b0, w1.heap.size = b0 := ⟨_, rfl⟩
  have HB := Lib.hid hb0
  rw [hb0] at HR2 HS1 ⊢
  clear hb0
  go_loopg [40] J (fun k vSLOT x => ∃ (i : Nat) (F : Nat → Int), i ≤ J ∧ vSLOT = .int .i64 i ∧ Hid (∀ t, t < M → 0 ≤ F t ∧ F t < p) ∧ Hid (Cg p (fl M F) (mul (f.take i) g)) ∧ Hid (Row 3 .i64 x b0 (.slice (some ⟨b0, 0, none⟩) M M) (fl M F)) ∧ Hid (k = J - i) ∧ Ex w1 x)
  case atStart => exact ⟨0, _, by omega, rfl, Lib.hid (fun _ _ => by omega), HSTART, HR2, Lib.hid rfl, HX2.out⟩
  case round =>
    obtain ⟨i, F, hi, rfl, hF, hC, hRi, hk, hx⟩ := hrel
    by_cases hlt : i < J
    · rcases (HRF.out _ (HX1.out.trans hx)) with hn | ⟨bg, og, rfl, hc⟩
      · have := HJ.out; rw [hn] at this; simp at this; omega
      have hci := hc i (by have := HJ.out; omega)
      obtain ⟨y0, y1⟩ := HFB.out i
      have HN := Lib.hid (HNEXT.out i F hlt hC.out)
      have HFN := Lib.hid (addm_bnd (n := K) (a := nth f i) (off := i) (g := g) (by omega : 0 < p) hF.out)
      have HA := Lib.hid fun cg ag (hrg : Reads w1 .i64 ag g) => addMul_row p (nth f i) F M M b0 i g ag cg b0 w1 wr (by omega) hp9 y0 (by omega) hF.out HGB.out (by have := HK.out; omega) (by omega) hx hrg (by rw [HB.out]; exact Nat.le_refl _) hRi.out
      rw [HK.out] at HA
      obtain ⟨Y, hY⟩ : ∃ Y, nth f i = Y := ⟨_, rfl⟩
      rw [hY] at hci y0 y1 HN HFN HA
      clear hc hY
      have hiM : i ≤ M := by omega
      go_wp2_with (go_at_call 48; (with_reducible refine (HA.out _ _ (HRG.out _ HX1.out)).mono ?_); rintro e w3 ⟨rfl, hrow3, hg3⟩)
      go_roundg (J - (i + 1))
      case measure => have := hk.out; omega
      case rel => exact ⟨i + 1, _, by omega, by go_num, HFN, HN, hrow3, Lib.hid rfl, ex_grown hx hg3.out (by intro k hk; cases hk; rw [HB.out]; exact Nat.le_refl _)⟩
    · have e : i = J := by omega
      subst e
      have HE := Lib.hid (HEND.out F hF.out (by have := hC.out; exact this))
      go_wp2
      go_ret2
      exact ⟨_, rfl, Lib.hid (by rw [← HE.out]; exact hRi.out.less HS1.out), HX1.out.trans hx⟩

theorem mul_ok (p : Int) (f g : List Int) (a b : Option Addr) (ca cb : Nat) (w : World) (hr : Reads w .i64 a f) (hr2 : Reads w .i64 b g) (h : bothE p f g = 0) (hm : f = [] ∨ g = [] ∨ f.length + g.length ≤ 41) :
    Calls Try.prog 28 #[.int .i64 p, .slice a f.length ca, .slice b g.length cb] w (Rowed (red p (mul f g)) w) := by
  have p2 := (bothE_zero.mp h).1.1
  by_cases h0 : f = [] ∨ g = []
  · refine (mul_none p f g a b ca cb w hr hr2 h h0).mono ?_
    rintro e w2 ⟨rfl, hx⟩
    have hz : red p (mul f g) = [] := (can_red (by omega) _).ext (by omega) (Po.Can.nil p) ((cg_red p _).trans (Cg.of_eq fun i => by
      rw [c_nil]
      rcases h0 with rfl | rfl
      · rfl
      · exact c_mul_nil_right f i))
    exact ⟨_, rfl, Lib.hid (by rw [hz]; exact Row.nil _ _ _ _), hx⟩
  · have h1 : f ≠ [] := fun e => h0 (.inl e)
    have h2 : g ≠ [] := fun e => h0 (.inr e)
    exact mul_full p f g a b ca cb w hr hr2 h h1 h2 (by rcases hm with hm | hm | hm; exact absurd hm h1; exact absurd hm h2; exact hm)

end Go.Proofs.Ytfdhhiibhkepaaa
