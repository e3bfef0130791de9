/-
  The document's polynomials: Short, Plus, Product.
-/
import Derived.Test.YtfempfmpphbfnaaPoGcd
namespace Go.Proofs.Ytfempfmpphbfnaa
open Go.RowKit
open Pr Po

/-- A row of its own comes back. -/
def Row1 (xs : List Int) (w : World) (e : Ending) (w2 : World) : Prop := ∃ v, e = .returned v ∧ Hid (Row 3 .i64 w2 w.heap.size v xs) ∧ Ex w w2

theorem cell_fresh (w : World) (x : Value) (t : TypeId) : (w.alloc (.cells #[x] t)).cell? ⟨w.heap.size, 0, none⟩ = some x := by simp

set_option maxRecDepth 100000 in
set_option maxHeartbeats 2000000 in
theorem refShort_any (xs : List Int) (a : Option Addr) (cap : Nat) (w : World) (hl : xs.length ≤ 1000) (hr : Reads w .i64 a xs) (hnil : a = none → cap = 0) (hcap : xs.length ≤ cap) (hc9 : cap ≤ 9223372036854775807) :
    Calls Try.prog 22 #[.slice a xs.length cap] w (Row1 (short xs) w) := by
  have hsl := short_length xs
  have HCL := Lib.hid fun w2 (hx : Ex w w2) => clone_ints (short xs) a cap w2 (by omega) (by rw [short_take]; exact (hr.ex hx).take _) hnil
  have HEND : Hid ((short (xs.take xs.length)).length = (short xs).length) := Lib.hid (by rw [List.take_length])
  have HST := Lib.hid fun k (h : k < xs.length) => short_step (f := xs) h
  have HR := Lib.hid hr
  obtain ⟨L, hL⟩ : ∃ L, xs.length = L := ⟨_, rfl⟩
  have HL := Lib.hid hL
  obtain ⟨S, hS⟩ : ∃ S, (short xs).length = S := ⟨_, rfl⟩
  rw [hL] at hl hcap HEND HST hsl ⊢
  rw [hS] at HCL HEND hsl
  cases a with
  | none =>
    obtain rfl := hnil rfl
    have hL0 : L = 0 := by omega
    subst hL0
    have hS0 : S = 0 := by omega
    subst hS0
    clear hr hnil hL hS
    go_enter Try.func22, Try.ntmps22
    go_wp2
    go_loopg [3, 8] 0 (fun k v3 v8 x => v3 = .int .i64 0 ∧ v8 = .int .i64 0 ∧ w = x)
    case atStart => exact ⟨rfl, rfl, rfl⟩
    case round =>
      obtain ⟨rfl, rfl, rfl⟩ := hrel
      go_wp2_with (go_at_call 33; (with_reducible refine (HCL.out _ (Ex.refl _)).mono ?_); rintro e w2 ⟨v, rfl, hrow, hx⟩)
      go_ret
      exact ⟨_, rfl, hrow, hx⟩
  | some ad =>
    clear hr hnil hL hS
    go_enter Try.func22, Try.ntmps22
    go_wp2
    go_loopg [3, 8] L (fun k v3 v8 x => ∃ i m : Nat, i ≤ L ∧ m ≤ i ∧ v8 = .int .i64 i ∧ v3 = .int .i64 m ∧ Hid (m = (short (xs.take i)).length) ∧ Hid (k = L - i) ∧ Ex w x)
    case atStart => exact ⟨0, 0, by omega, by omega, rfl, rfl, Lib.hid rfl, Lib.hid rfl, Ex.refl _⟩
    case round =>
      obtain ⟨i, m, hi, hm, rfl, rfl, hM, hk, hx⟩ := hrel
      by_cases hlt : i < L
      · rcases (HR.out.ex hx) with hn | ⟨b, off, h1, hc⟩
        · have := HL.out; rw [hn] at this; simp at this; omega
        obtain rfl := Option.some.inj h1
        have hci := hc i (by have := HL.out; omega)
        have HS := HST.out i hlt
        obtain ⟨x, hxx⟩ : ∃ x, nth xs i = x := ⟨_, rfl⟩
        rw [show c xs i = x from hxx] at HS
        rw [hxx] at hci
        have HS2 := Lib.hid HS
        clear hc hxx HS h1
        by_cases h0 : x = 0
        · have HM : Hid (m = (short (xs.take (i + 1))).length) := Lib.hid (by rw [HS2.out, if_pos h0]; exact hM.out)
          subst h0
          go_wp2
          go_roundg (L - (i + 1))
          case measure => have := hk.out; omega
          case rel => exact ⟨i + 1, m, by omega, by omega, by go_num, rfl, HM, Lib.hid rfl, hx⟩
        · have HM : Hid (i + 1 = (short (xs.take (i + 1))).length) := Lib.hid (by rw [HS2.out, if_neg h0])
          have g1 : (x != 0) = true := by simpa using h0
          go_wp2
          go_roundg (L - (i + 1))
          case measure => have := hk.out; omega
          case rel => exact ⟨i + 1, i + 1, by omega, by omega, by go_num, by go_num, HM, Lib.hid rfl, hx⟩
      · have e : i = L := by omega
        subst e
        have hm2 : m = S := by rw [hM.out]; exact HEND.out
        subst hm2
        go_wp2_with (go_at_call 33; (with_reducible refine (HCL.out _ hx).mono ?_); rintro e w2 ⟨v, rfl, hrow, hx2⟩)
        go_ret
        exact ⟨_, rfl, Lib.hid (hrow.out.less hx.size), hx.trans hx2⟩

theorem pad (f : List Int) (n : Nat) (h : f.length ≤ n) : fl n (nth f) ++ [0] = fl (n + 1) (nth f) := by
  have : nth f n = 0 := c_over h
  unfold fl
  rw [List.range_succ, List.map_append, List.map_cons, this]
  rfl

set_option maxRecDepth 100000 in
set_option maxHeartbeats 4000000 in
theorem refPlus_any (p t : Int) (f g : List Int) (high : Nat) (a b : Option Addr) (ca cb : Nat) (w : World) (p1 : 1 ≤ p) (p9 : p ≤ 997) (t1 : -1000000 ≤ t) (t2 : t ≤ 1000000) (hf : Bnd p f) (hg : Bnd p g) (hl : f.length ≤ 200) (hl2 : g.length ≤ 200) (hh : high ≤ 200)
    (hr : Reads w .i64 a f) (hnil : a = none → ca = 0) (hr2 : Reads w .i64 b g) :
    Calls Try.prog 19 #[.int .i64 p, .slice a f.length ca, .int .i64 t, .slice b g.length cb, .int .i64 high] w (Row1 (red p (plus f t g high)) w) := by
  have HCL := Lib.hid fun w2 (hx : Ex w w2) => clone_ints f a ca w2 (by omega) (hr.ex hx) hnil
  have HRG := Lib.hid fun w2 (hx : Ex w w2) => hr2.ex hx
  have HG := Lib.hid fun i => hg.at (by omega) i
  obtain ⟨L, hLd⟩ : ∃ L, max f.length (g.length + high) = L := ⟨_, rfl⟩
  have HF := Lib.hid fun n => addm_bnd (n := n) (a := t) (off := high) (g := g) (L := L) (by omega : 0 < p) fun i (_ : i < L) => hf.at (by omega) i
  have HH : Hid (∀ n, addm p (nth f) high t g n (n + high) = nth f (n + high)) := Lib.hid fun n => by
    have := addm_here p (nth f) high t g n
    rwa [Nat.add_comm high n] at this
  have HS : Hid (∀ n, upd (addm p (nth f) high t g n) (n + high) ((nth f (n + high) + t * nth g n) % p) = addm p (nth f) high t g (n + 1)) := Lib.hid fun n => by
    have := addm_step p (nth f) high t g n
    rwa [Nat.add_comm high n] at this
  have HEND : Hid (short (fl L (addm p (nth f) high t g g.length)) = red p (plus f t g high)) := Lib.hid
    (short_red (by omega) (bnd_fl (addm_bnd (by omega) fun i _ => hf.at (by omega) i)) ((addm_cg (by omega)).trans (Cg.plus (Cg.of_eq (c_fl_nth (by omega))) t g high)))
  have HFR : Hid (f = fl f.length (nth f)) := Lib.hid (fl_of f).symm
  have HPAD := Lib.hid fun n h => pad f n h
  obtain ⟨J, hJ⟩ : ∃ J, f.length = J := ⟨_, rfl⟩
  obtain ⟨K, hK⟩ : ∃ K, g.length = K := ⟨_, rfl⟩
  have HK := Lib.hid hK
  have HJ := Lib.hid hJ
  rw [hJ] at HCL hl hLd HFR HPAD ⊢
  rw [hK] at hl2 hLd HEND ⊢
  have hLb : L ≤ 400 := by omega
  clear hf hg hr hr2 hnil hJ hK
  go_enter Try.func19, Try.ntmps19
  go_wp2_with (first
    | (go_at_call 33; (with_reducible refine (HCL.out _ (Ex.refl _)).mono ?_); rintro e w1 ⟨u, rfl, hrow, hx1⟩
       obtain ⟨ad, cp, rfl, _, _, hn1⟩ := hrow.out.reads
       rw [HJ.out]
       have HR1 : Hid (Row 3 .i64 w1 w.heap.size (.slice ad J cp) (fl J (nth f))) := Lib.hid (by
         have := hrow.out
         rw [HJ.out] at this
         rw [← HFR.out]; exact this)
       have HX1 := Lib.hid hx1
       clear hrow hn1 hx1))
  go_loopg [11] (400 - J) (fun k vSLOT x => ∃ (n : Nat) (ad : Option Addr) (cp : Nat), vSLOT = .slice ad n cp ∧ J ≤ n ∧ n ≤ L ∧ Hid (Row 3 .i64 x w.heap.size (.slice ad n cp) (fl n (nth f))) ∧ Hid (k = 400 - n) ∧ Ex w x)
  case atStart => exact ⟨J, ad, cp, rfl, by omega, by omega, HR1, Lib.hid rfl, HX1.out⟩
  case round =>
    obtain ⟨n, ad, cp, rfl, hn1, hn2, hR, hk, hx⟩ := hrel
    by_cases hlt : n < K + high
    · have c1 := cell_fresh wr (.int .i64 0) 3
      have HX := Lib.hid (hx.alloc (.cells #[.int .i64 0] 3))
      have HRA := Lib.hid (hR.out.ex ((Ex.refl wr).alloc (.cells #[.int .i64 0] 3)))
      have hlI : (n : Int) < (K : Int) + (high : Int) := by omega
      go_wp2_with (
        (at_builtin; refine wpList_append_int rfl _ _ 22 rfl w.heap.size 3 .i64 8 Try.underlying22 info_int _ (fl n (nth f)) rfl HRA.out 0 wr.heap.size rfl c1 (by rw [fl_length]; unfold maxLen; omega) (by rw [fl_length]; omega) HX.out.size ?_; intro v1 w3 hown3 hgrow3 hat3
         have HX3 := Lib.hid (HRA.out.grown HX.out hgrow3)
         rw [HPAD.out n hn1] at hown3
         obtain ⟨ad3, cp3, rfl, _, _, _⟩ := hown3.reads
         rw [fl_length] at hown3 ⊢
         have HR3 := Lib.hid hown3
         clear hown3 hgrow3 hat3 c1))
      go_roundg (400 - (n + 1))
      case measure => have := hk.out; omega
      case rel => exact ⟨n + 1, ad3, cp3, rfl, by omega, by omega, HR3, Lib.hid rfl, HX3.out⟩
    · have e : n = L := by omega
      subst e
      have hlI : ¬ (n : Int) < (K : Int) + (high : Int) := by omega
      have HR4 : Hid (Row 3 .i64 wr w.heap.size (.slice ad n cp) (fl n (addm p (nth f) high t g 0))) := Lib.hid (by rw [addm_zero]; exact hR.out)
      obtain ⟨S, hSd⟩ : ∃ S, addm p (nth f) high t g = S := ⟨_, rfl⟩
      rw [hSd] at HF HS HR4 HEND
      simp only [hSd] at HH
      clear hSd
      have HXW := Lib.hid hx
      have hKL : K + high ≤ n := by omega
      go_wp2
      go_loopg [28] K (fun k vSLOT x => ∃ i : Nat, i ≤ K ∧ vSLOT = .int .i64 i ∧ Hid (Row 3 .i64 x w.heap.size (.slice ad n cp) (fl n (S i))) ∧ Hid (k = K - i) ∧ Ex w x)
      case atStart => exact ⟨0, by omega, rfl, HR4, Lib.hid rfl, HXW.out⟩
      case round =>
        obtain ⟨i, hi, rfl, hRi, hk, hx⟩ := hrel
        by_cases hlt : i < K
        · rcases (HRG.out _ hx) with hn | ⟨bg, og, rfl, hc⟩
          · have := HK.out; rw [hn] at this; simp at this; omega
          have hci := hc i (by have := HK.out; omega)
          have hform := hRi.out.form
          rw [fl_length] at hform
          rcases hform with ⟨_, f2⟩ | ⟨bo, cp2, f1, fb1, fb2, fc1, fc2, fx, fy⟩
          · have := congrArg List.length f2
            rw [fl_length] at this
            simp at this
            omega
          simp only [Value.slice.injEq, true_and] at f1
          obtain ⟨rfl, rfl⟩ := f1
          obtain ⟨_, _, hcf, hfr⟩ := hRi.out.flat
          have hcs := hcf (i + high) (by omega)
          have hfs := hfr (i + high)
          have HE := HS.out i
          rw [← HH.out i] at HE
          obtain ⟨x0, x1⟩ := HF.out i (i + high) (by omega)
          obtain ⟨y0, y1⟩ := HG.out i
          have HS0 := hRi.out.flset (i + high) ((S i (i + high) + t * nth g i) % p)
          rw [HE] at HS0
          have HS1 := Lib.hid HS0.1
          have HS2 := Lib.hid (ex_grown hx HS0.2 (by intro k hk; cases hk; exact fb1))
          obtain ⟨X, hX⟩ : ∃ X, S i (i + high) = X := ⟨_, rfl⟩
          obtain ⟨Y, hY⟩ : ∃ Y, nth g i = Y := ⟨_, rfl⟩
          rw [hX] at hcs x0 x1 HS1 HS2
          rw [hY] at hci y0 y1 HS1 HS2
          have m := Eu.abs_mul_le (a := t) (b := Y) (B := 1000000) (C := 997) (by omega) (by omega) (by omega) (by omega)
          obtain ⟨m0, m1⟩ := m
          unfold maxLen at fc2
          have hihN : i + high < n := by omega
          clear hc hcf hfr HE HS0 hX hY fx fy fb1 fb2
          go_wp2_with (go_at_call 44; (with_reducible refine (refmod_any (X + t * Y) p _ (by omega) (by omega)).mono ?_); rintro e w' ⟨rfl, rfl⟩)
          go_roundg (K - (i + 1))
          case measure => have := hk.out; omega
          case rel => exact ⟨i + 1, by omega, by go_num, HS1, Lib.hid rfl, HS2.out⟩
        · have e : i = K := by omega
          subst e
          have hform := hRi.out.form
          rw [fl_length] at hform
          have hcp : n ≤ cp ∧ cp ≤ 9223372036854775807 := by
            rcases hform with ⟨f1, f2⟩ | ⟨bo, cp2, f1, _, _, fc1, fc2, _, _⟩
            · simp only [Value.slice.injEq] at f1
              omega
            · simp only [Value.slice.injEq, true_and] at f1
              unfold maxLen at fc2
              omega
          have hnl : ad = none → cp = 0 := by
            obtain ⟨ad2, cp2, h1, _, _, h3⟩ := hRi.out.reads
            simp only [Value.slice.injEq] at h1
            obtain ⟨rfl, _, rfl⟩ := h1
            exact h3
          have HT := Lib.hid (refShort_any (fl n (S i)) ad cp wr (by rw [fl_length]; omega) hRi.out.read hnl (by rw [fl_length]; exact hcp.1) hcp.2)
          rw [fl_length] at HT
          clear hform hnl
          go_wp2_with (go_at_call 22; (with_reducible refine (HT.out).mono ?_); rintro e w5 ⟨u, rfl, hu, hw5⟩)
          go_ret
          exact ⟨_, rfl, Lib.hid (by rw [← HEND.out]; exact hu.out.less hx.size), hx.trans hw5⟩

end Go.Proofs.Ytfempfmpphbfnaa
