/-
  Package poly: Add, Mul.
-/
import Derived.Test.YtfdhhiibhkepaaaPoTrim
import Derived.Test.YtfdhhiibhkepaaaPoChk
namespace Go.Proofs.Ytfdhhiibhkepaaa
open Go.RowKit
open Pr Po

/-- A row of its own comes back, and no error. -/
def Rowed (xs : List Int) (w : World) (e : Ending) (w2 : World) : Prop := ∃ v, e = .returned (.tuple #[v, .int .i64 0]) ∧ Hid (Row 3 .i64 w2 w.heap.size v xs) ∧ Ex w w2

set_option maxRecDepth 100000 in
set_option maxHeartbeats 2000000 in
theorem add_no (p : Int) (f g : List Int) (a b : Option Addr) (ca cb : Nat) (w : World) (hl : f.length ≤ maxLen) (hr : Reads w .i64 a f) (hl2 : g.length ≤ maxLen) (hr2 : Reads w .i64 b g) (h : bothE p f g ≠ 0) :
    Calls Try.prog 21 #[.int .i64 p, .slice a f.length ca, .slice b g.length cb] w (Says (.tuple #[.slice none 0 0, .int .i64 (bothE p f g)]) w) := by
  have HC := Lib.hid (both_any p f g a b ca cb w hl hr hl2 hr2)
  obtain ⟨c, hc⟩ : ∃ c, bothE p f g = c := ⟨_, rfl⟩
  rw [hc] at HC h ⊢
  have hb : (c != 0) = true := by simpa using h
  clear hl hr hl2 hr2 h hc
  go_enter Try.func21, Try.ntmps21
  go_wp2_with (go_at_call 42; (with_reducible refine (HC.out).mono ?_); rintro e w2 ⟨rfl, hw2⟩)
  go_ret2
  exact ⟨rfl, hw2⟩

set_option maxRecDepth 100000 in
set_option maxHeartbeats 4000000 in
theorem add_ok (p : Int) (f g : List Int) (a b : Option Addr) (ca cb : Nat) (w : World) (hr : Reads w .i64 a f) (hr2 : Reads w .i64 b g) (h : bothE p f g = 0) :
    Calls Try.prog 21 #[.int .i64 p, .slice a f.length ca, .slice b g.length cb] w (Rowed (red p (add f g)) w) := by
  obtain ⟨hp, hp9, hl, hcf, hl2, hcg⟩ := bothE_zero.mp h
  have HC := Lib.hid (both_any p f g a b ca cb w (by unfold maxLen; omega) hr (by unfold maxLen; omega) hr2)
  rw [h] at HC
  have p2 := hp.1
  have HRF := Lib.hid fun w2 (hx : Ex w w2) => hr.ex hx
  have HRG := Lib.hid fun w2 (hx : Ex w w2) => hr2.ex hx
  have HG := Lib.hid fun i => hcg.bnd.at (by omega) i
  have HNF : Hid (∀ t, (if t < f.length then nth f t else 0) = nth f t) := Lib.hid fun t => by
    split
    · rfl
    · exact (c_over (by omega)).symm
  obtain ⟨L, hLd⟩ : ∃ L, max f.length g.length = L := ⟨_, rfl⟩
  have HLF : Hid (f.length ≤ L) := Lib.hid (by omega)
  have HLG : Hid (g.length ≤ L) := Lib.hid (by omega)
  have HLM : Hid (L ≤ 1000) := Lib.hid (by omega)
  have HF := Lib.hid fun n => addm_bnd (n := n) (a := 1) (off := 0) (g := g) (L := L) (by omega : 0 < p) fun t (_ : t < L) => hcf.bnd.at (by omega) t
  have HH : Hid (∀ n, addm p (nth f) 0 1 g n n = nth f n) := Lib.hid fun n => by
    have := addm_here p (nth f) 0 1 g n
    rwa [Nat.zero_add] at this
  have HS : Hid (∀ n, upd (addm p (nth f) 0 1 g n) n ((nth f n + nth g n) % p) = addm p (nth f) 0 1 g (n + 1)) := Lib.hid fun n => by
    have := addm_step p (nth f) 0 1 g n
    rwa [Nat.zero_add, Int.one_mul] at this
  have HEND : Hid (short (fl L (addm p (nth f) 0 1 g g.length)) = red p (add f g)) := Lib.hid (by
    refine short_red (by omega) (bnd_fl (addm_bnd (by omega) fun t _ => hcf.bnd.at (by omega) t)) ((addm_cg (by omega)).trans ?_)
    refine (Cg.plus (Cg.of_eq (c_fl_nth (by omega))) 1 g 0).trans (Cg.of_eq (plus_one f g)))
  obtain ⟨J, hJ⟩ : ∃ J, f.length = J := ⟨_, rfl⟩
  obtain ⟨K, hK⟩ : ∃ K, g.length = K := ⟨_, rfl⟩
  have HK := Lib.hid hK
  have HJ := Lib.hid hJ
  have hpI : p ≤ 997 := hp9
  clear h hp hcf hcg hr hr2
  have hLb : L ≤ 40 := by omega
  by_cases hm : f.length < g.length
  · have hL : L = K := by omega
    subst hL
    rw [hK] at HLG
    rw [hK] at HEND
    have hd : decide ((J : Int) < (L : Int)) = true := decide_eq_true (by omega)
    rw [hJ] at HC ⊢
    rw [hK] at HC ⊢
    have hJL : J < L := by omega
    clear hLd hm hK hl hl2
    have HLF2 := HLF
    go_enter Try.func21, Try.ntmps21
    go_wp2_with (first
      | (go_at_call 42; (with_reducible refine (HC.out).mono ?_); rintro e w1 ⟨rfl, hw1⟩)
      | (at_make; refine wpList_make_ints rfl _ _ 23 rfl w1.heap.size 3 .i64 8 Try.underlying23 info_int _ _ L rfl rfl (by omega) (by unfold maxLen; omega) (Nat.le_refl _) ?_; intro w2 hown2 hgrow2
         have HX2 : Hid (Ex w1 w2) := Lib.hid (ex_grown (Ex.refl w1) hgrow2 (by intro k hk; cases hk))
         have HR2 : Hid (Row 3 .i64 w2 w1.heap.size (.slice (some ⟨w1.heap.size, 0, none⟩) L L) (fl L fun _ => 0)) := Lib.hid (by rw [fl_zero] at hown2; exact hown2)
         clear hown2 hgrow2)
      | (refine wpList_copy_ints rfl _ _ 23 23 rfl w1.heap.size 3 .i64 Try.underlying23 (by kernel_rfl) w1.heap.size L L (fun _ => 0) rfl HR2.out f _ HJ.out _ _ rfl (HRF.out _ (hw1.trans HX2.out)) (by have := HLF.out; have := HJ.out; omega) ?_; intro w3 hown3 hgrow3
         have HX3 : Hid (Ex w1 w3) := Lib.hid (ex_grown HX2.out hgrow3 (by intro k hk; cases hk; exact Nat.le_refl _))
         have HR3 := Lib.hid (hown3.flcong (H := nth f) fun t _ => by rw [← HJ.out]; exact HNF.out t)
         clear hown3 hgrow3))
    have HX1 := Lib.hid hw1
    have HS1 : Hid (w.heap.size ≤ w1.heap.size) := Lib.hid hw1.size
    obtain ⟨b0, hb0⟩ : ∃ b0, w1.heap.size = b0 := ⟨_, rfl⟩
    have HB := Lib.hid hb0
    rw [hb0] at HR3 HS1 ⊢
    clear hb0 HR2 HX2
    have HR4 : Hid (Row 3 .i64 w3 b0 (.slice (some ⟨b0, 0, none⟩) L L) (fl L (addm p (nth f) 0 1 g 0))) := Lib.hid (by rw [addm_zero]; exact HR3.out)
    clear HR3
    obtain ⟨S, hSd⟩ : ∃ S, addm p (nth f) 0 1 g = S := ⟨_, rfl⟩
    rw [hSd] at HF HS HR4 HEND
    simp only [hSd] at HH
    clear hSd
    go_loopg [30] L (fun k vSLOT x => ∃ i : Nat, i ≤ L ∧ vSLOT = .int .i64 i ∧ Hid (Row 3 .i64 x b0 (.slice (some ⟨b0, 0, none⟩) L L) (fl L (S i))) ∧ Hid (k = L - i) ∧ Ex w1 x)
    case atStart => exact ⟨0, by omega, rfl, HR4, Lib.hid rfl, HX3.out⟩
    case round =>
      obtain ⟨i, hi, rfl, hRi, hk, hx⟩ := hrel
      by_cases hlt : i < L
      · rcases (HRG.out _ (HX1.out.trans hx)) with hn | ⟨bg, og, rfl, hc⟩
        · have := HK.out; rw [hn] at this; simp at this; omega
        have hci := hc i (by have := HK.out; omega)
        obtain ⟨_, _, hcf, hfr⟩ := hRi.out.flat
        have hcs := hcf i (by have := HLG.out; omega)
        have hfs := hfr i
        have HE := HS.out i
        rw [← HH.out i] at HE
        obtain ⟨x0, x1⟩ := HF.out i i (by have := HLG.out; omega)
        obtain ⟨y0, y1⟩ := HG.out i
        have HS0 := hRi.out.flset i ((S i i + nth g i) % p)
        rw [HE] at HS0
        have HS1 := Lib.hid HS0.1
        have HS2 := Lib.hid (ex_grown hx HS0.2 (by intro k hk; cases hk; rw [HB.out]; exact Nat.le_refl _))
        obtain ⟨X, hX⟩ : ∃ X, S i i = X := ⟨_, rfl⟩
        obtain ⟨Y, hY⟩ : ∃ Y, nth g i = Y := ⟨_, rfl⟩
        rw [hX] at hcs x0 x1 HS1 HS2
        rw [hY] at hci y0 y1 HS1 HS2
        have hil : i < L := by have := HLG.out; omega
        clear hc hcf hfr HE HS0 hX hY
        go_wp2
        go_roundg (L - (i + 1))
        case measure => have := hk.out; omega
        case rel => exact ⟨i + 1, by omega, by go_num, HS1, Lib.hid rfl, HS2.out⟩
      · have e : i = L := by omega
        subst e
        have HT := Lib.hid (trim_row _ _ _ wr hRi.out (by rw [fl_length]; exact HLM.out))
        go_wp2_with (go_at_call 43; (with_reducible refine (HT.out).mono ?_); rintro e w5 ⟨u, rfl, hu, _, hw5⟩)
        go_ret2
        exact ⟨_, rfl, Lib.hid (by rw [← HEND.out]; exact hu.out.less HS1.out), HX1.out.trans (hx.trans hw5)⟩
  · have hL : L = J := by omega
    subst hL
    rw [hK] at HLG
    rw [hK] at HEND
    have hJL : K ≤ L := by omega
    have hd : decide ((L : Int) < (K : Int)) = false := decide_eq_false (by omega)
    rw [hJ] at HC ⊢
    rw [hK] at HC ⊢
    clear hLd hm hK hl hl2
    go_enter Try.func21, Try.ntmps21
    go_wp2_with (first
      | (go_at_call 42; (with_reducible refine (HC.out).mono ?_); rintro e w1 ⟨rfl, hw1⟩)
      | (at_make; refine wpList_make_ints rfl _ _ 23 rfl w1.heap.size 3 .i64 8 Try.underlying23 info_int _ _ L rfl rfl (by omega) (by unfold maxLen; omega) (Nat.le_refl _) ?_; intro w2 hown2 hgrow2
         have HX2 : Hid (Ex w1 w2) := Lib.hid (ex_grown (Ex.refl w1) hgrow2 (by intro k hk; cases hk))
         have HR2 : Hid (Row 3 .i64 w2 w1.heap.size (.slice (some ⟨w1.heap.size, 0, none⟩) L L) (fl L fun _ => 0)) := Lib.hid (by rw [fl_zero] at hown2; exact hown2)
         clear hown2 hgrow2)
      | (refine wpList_copy_ints rfl _ _ 23 23 rfl w1.heap.size 3 .i64 Try.underlying23 (by kernel_rfl) w1.heap.size L L (fun _ => 0) rfl HR2.out f _ HJ.out _ _ rfl (HRF.out _ (hw1.trans HX2.out)) (by have := HLF.out; have := HJ.out; omega) ?_; intro w3 hown3 hgrow3
         have HX3 : Hid (Ex w1 w3) := Lib.hid (ex_grown HX2.out hgrow3 (by intro k hk; cases hk; exact Nat.le_refl _))
         have HR3 := Lib.hid (hown3.flcong (H := nth f) fun t _ => by rw [← HJ.out]; exact HNF.out t)
         clear hown3 hgrow3))
    have HX1 := Lib.hid hw1
    have HS1 : Hid (w.heap.size ≤ w1.heap.size) := Lib.hid hw1.size
    obtain ⟨b0, hb0⟩ : ∃ b0, w1.heap.size = b0 := ⟨_, rfl⟩
    have HB := Lib.hid hb0
    rw [hb0] at HR3 HS1 ⊢
    clear hb0 HR2 HX2
    have HR4 : Hid (Row 3 .i64 w3 b0 (.slice (some ⟨b0, 0, none⟩) L L) (fl L (addm p (nth f) 0 1 g 0))) := Lib.hid (by rw [addm_zero]; exact HR3.out)
    clear HR3
    obtain ⟨S, hSd⟩ : ∃ S, addm p (nth f) 0 1 g = S := ⟨_, rfl⟩
    rw [hSd] at HF HS HR4 HEND
    simp only [hSd] at HH
    clear hSd
    go_loopg [30] K (fun k vSLOT x => ∃ i : Nat, i ≤ K ∧ vSLOT = .int .i64 i ∧ Hid (Row 3 .i64 x b0 (.slice (some ⟨b0, 0, none⟩) L L) (fl L (S i))) ∧ Hid (k = K - i) ∧ Ex w1 x)
    case atStart => exact ⟨0, by omega, rfl, HR4, Lib.hid rfl, HX3.out⟩
    case round =>
      obtain ⟨i, hi, rfl, hRi, hk, hx⟩ := hrel
      by_cases hlt : i < K
      · rcases (HRG.out _ (HX1.out.trans hx)) with hn | ⟨bg, og, rfl, hc⟩
        · have := HK.out; rw [hn] at this; simp at this; omega
        have hci := hc i (by have := HK.out; omega)
        obtain ⟨_, _, hcf, hfr⟩ := hRi.out.flat
        have hcs := hcf i (by have := HLG.out; omega)
        have hfs := hfr i
        have HE := HS.out i
        rw [← HH.out i] at HE
        obtain ⟨x0, x1⟩ := HF.out i i (by have := HLG.out; omega)
        obtain ⟨y0, y1⟩ := HG.out i
        have HS0 := hRi.out.flset i ((S i i + nth g i) % p)
        rw [HE] at HS0
        have HS1 := Lib.hid HS0.1
        have HS2 := Lib.hid (ex_grown hx HS0.2 (by intro k hk; cases hk; rw [HB.out]; exact Nat.le_refl _))
        obtain ⟨X, hX⟩ : ∃ X, S i i = X := ⟨_, rfl⟩
        obtain ⟨Y, hY⟩ : ∃ Y, nth g i = Y := ⟨_, rfl⟩
        rw [hX] at hcs x0 x1 HS1 HS2
        rw [hY] at hci y0 y1 HS1 HS2
        have hil : i < L := by have := HLG.out; omega
        clear hc hcf hfr HE HS0 hX hY
        go_wp2
        go_roundg (K - (i + 1))
        case measure => have := hk.out; omega
        case rel => exact ⟨i + 1, by omega, by go_num, HS1, Lib.hid rfl, HS2.out⟩
      · have e : i = K := by omega
        subst e
        have HT := Lib.hid (trim_row _ _ _ wr hRi.out (by rw [fl_length]; exact HLM.out))
        go_wp2_with (go_at_call 43; (with_reducible refine (HT.out).mono ?_); rintro e w5 ⟨u, rfl, hu, _, hw5⟩)
        go_ret2
        exact ⟨_, rfl, Lib.hid (by rw [← HEND.out]; exact hu.out.less HS1.out), HX1.out.trans (hx.trans hw5)⟩

end Go.Proofs.Ytfdhhiibhkepaaa
