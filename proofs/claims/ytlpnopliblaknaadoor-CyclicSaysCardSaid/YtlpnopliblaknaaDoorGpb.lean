/-
  Several texts in one:
  - The document's polynomials: Short, Plus, Product.
  - The document's polynomials: Product.
  - wholekeep: polys, fieldOf, polyOf.
  - Polynomials in the laws: what is there before the walk, with its contract.
  - slices.Backward at integers: a range over it: its contract.
  - Package poly: At.
  - The document's polynomials: ValueAt.
  - PolyValues, walked.
-/
import Derived.Test.YtlpnopliblaknaaDoorGpa
import Derived.Test.YtlpnopliblaknaaDoorGro
import Derived.RangeFuncNested
import Derived.RangeFuncBound
import Derived.RangeFuncCalls
import Derived.RangeFuncLeaves
import Derived.RangeFuncBox
import Derived.Shelf.Abstract
import Derived.Shelf.RegionOpen
import Derived.WalkKit
import Derived.OwnWalkIn
import Derived.TacticsInMore
import Derived.LoopNIn
import Derived.LoopIn
import Derived.Deep.RegionHeld
import Derived.Test.YtlpnopliblaknaaDoorGma
import Derived.Test.YtlpnopliblaknaaDoorGnu
namespace Go.Proofs.YtlpnopliblaknaaDoor
open Go.RowKit
open Pr Po

/-- A row of its own comes back. -/
def Row1 (xs : List Int) (w : World) (e : Ending) (w2 : World) : Prop := ∃ v, e = .returned v ∧ Hid (Row 3 .i64 w2 w.heap.size v xs) ∧ Ex w w2

theorem cell_fresh (w : World) (x : Value) (t : TypeId) : (w.alloc (.cells #[x] t)).cell? ⟨w.heap.size, 0, none⟩ = some x := by simp

set_option maxRecDepth 100000 in
set_option maxHeartbeats 2000000 in
theorem refShort_any (xs : List Int) (a : Option Addr) (cap : Nat) (w : World) (hl : xs.length ≤ 1000) (hr : Reads w .i64 a xs) (hnil : a = none → cap = 0) (hcap : xs.length ≤ cap) (hc9 : cap ≤ 9223372036854775807) :
    Calls Tryd.prog 20 #[.slice a xs.length cap] w (Row1 (short xs) w) := by
  have hsl := short_length xs
  have HCL := Lib.hid fun w2 (hx : Ex w w2) => clone_ints (short xs) a cap w2 (by omega) (by rw [short_take]; exact (hr.ex hx).take _) hnil
  have HEND : Hid ((short (xs.take xs.length)).length = (short xs).length) := Lib.hid (by rw [List.take_length])
  have HST := Lib.hid fun k (h : k < xs.length) => short_step (f := xs) h
  have HR := Lib.hid hr
  obtain ⟨L, hL⟩ : ∃ L, xs.length = L := ⟨_, rfl⟩
  have HL := Lib.hid hL
  obtain ⟨S, hS⟩ : ∃ S, (short xs).length = S := ⟨_, rfl⟩
  rw [hL] at hl hcap HEND HST hsl ⊢
  rw [hS] at HCL HEND hsl
  cases a with
  | none =>
    obtain rfl := hnil rfl
    have hL0 : L = 0 := by omega
    subst hL0
    have hS0 : S = 0 := by omega
    subst hS0
    clear hr hnil hL hS
    go_enter Tryd.func20, Tryd.ntmps20
    go_wp2
    go_loopg [3, 8] 0 (fun k v3 v8 x => v3 = .int .i64 0 ∧ v8 = .int .i64 0 ∧ w = x)
    case atStart => exact ⟨rfl, rfl, rfl⟩
    case round =>
      obtain ⟨rfl, rfl, rfl⟩ := hrel
      go_wp2_with (go_at_call 33; (with_reducible refine (HCL.out _ (Ex.refl _)).mono ?_); rintro e w2 ⟨v, rfl, hrow, hx⟩)
      go_ret
      exact ⟨_, rfl, hrow, hx⟩
  | some ad =>
    clear hr hnil hL hS
    go_enter Tryd.func20, Tryd.ntmps20
    go_wp2
    go_loopg [3, 8] L (fun k v3 v8 x => ∃ i m : Nat, i ≤ L ∧ m ≤ i ∧ v8 = .int .i64 i ∧ v3 = .int .i64 m ∧ Hid (m = (short (xs.take i)).length) ∧ Hid (k = L - i) ∧ Ex w x)
    case atStart => exact ⟨0, 0, by omega, by omega, rfl, rfl, Lib.hid rfl, Lib.hid rfl, Ex.refl _⟩
    case round =>
      obtain ⟨i, m, hi, hm, rfl, rfl, hM, hk, hx⟩ := hrel
      by_cases hlt : i < L
      · rcases (HR.out.ex hx) with hn | ⟨b, off, h1, hc⟩
        · have := HL.out; rw [hn] at this; simp at this; omega
        obtain rfl := Option.some.inj h1
        have hci := hc i (by have := HL.out; omega)
        have HS := HST.out i hlt
        obtain ⟨x, hxx⟩ : ∃ x, nth xs i = x := ⟨_, rfl⟩
        rw [show c xs i = x from hxx] at HS
        rw [hxx] at hci
        have HS2 := Lib.hid HS
        clear hc hxx HS h1
        by_cases h0 : x = 0
        · have HM : Hid (m = (short (xs.take (i + 1))).length) := Lib.hid (by rw [HS2.out, if_pos h0]; exact hM.out)
          subst h0
          go_wp2
          go_roundg (L - (i + 1))
          case measure => have := hk.out; omega
          case rel => exact ⟨i + 1, m, by omega, by omega, by go_num, rfl, HM, Lib.hid rfl, hx⟩
        · have HM : Hid (i + 1 = (short (xs.take (i + 1))).length) := Lib.hid (by rw [HS2.out, if_neg h0])
          have g1 : (x != 0) = true := by simpa using h0
          go_wp2
          go_roundg (L - (i + 1))
          case measure => have := hk.out; omega
          case rel => exact ⟨i + 1, i + 1, by omega, by omega, by go_num, by go_num, HM, Lib.hid rfl, hx⟩
      · have e : i = L := by omega
        subst e
        have hm2 : m = S := by rw [hM.out]; exact HEND.out
        subst hm2
        go_wp2_with (go_at_call 33; (with_reducible refine (HCL.out _ hx).mono ?_); rintro e w2 ⟨v, rfl, hrow, hx2⟩)
        go_ret
        exact ⟨_, rfl, Lib.hid (hrow.out.less hx.size), hx.trans hx2⟩

theorem pad (f : List Int) (n : Nat) (h : f.length ≤ n) : fl n (nth f) ++ [0] = fl (n + 1) (nth f) := by
  have : nth f n = 0 := c_over h
  unfold fl
  rw [List.range_succ, List.map_append, List.map_cons, this]
  rfl

set_option maxRecDepth 100000 in
set_option maxHeartbeats 4000000 in
theorem refPlus_any (p t : Int) (f g : List Int) (high : Nat) (a b : Option Addr) (ca cb : Nat) (w : World) (p1 : 1 ≤ p) (p9 : p ≤ 997) (t1 : -1000000 ≤ t) (t2 : t ≤ 1000000) (hf : Bnd p f) (hg : Bnd p g) (hl : f.length ≤ 400) (hl2 : g.length ≤ 400) (hh : high ≤ 400)
    (hr : Reads w .i64 a f) (hnil : a = none → ca = 0) (hr2 : Reads w .i64 b g) :
    Calls Tryd.prog 32 #[.int .i64 p, .slice a f.length ca, .int .i64 t, .slice b g.length cb, .int .i64 high] w (Row1 (red p (plus f t g high)) w) := by
  have HCL := Lib.hid fun w2 (hx : Ex w w2) => clone_ints f a ca w2 (by omega) (hr.ex hx) hnil
  have HRG := Lib.hid fun w2 (hx : Ex w w2) => hr2.ex hx
  have HG := Lib.hid fun i => hg.at (by omega) i
  obtain ⟨L, hLd⟩ : ∃ L, max f.length (g.length + high) = L := ⟨_, rfl⟩
  have HF := Lib.hid fun n => addm_bnd (n := n) (a := t) (off := high) (g := g) (L := L) (by omega : 0 < p) fun i (_ : i < L) => hf.at (by omega) i
  have HH : Hid (∀ n, addm p (nth f) high t g n (n + high) = nth f (n + high)) := Lib.hid fun n => by
    have := addm_here p (nth f) high t g n
    rwa [Nat.add_comm high n] at this
  have HS : Hid (∀ n, upd (addm p (nth f) high t g n) (n + high) ((nth f (n + high) + t * nth g n) % p) = addm p (nth f) high t g (n + 1)) := Lib.hid fun n => by
    have := addm_step p (nth f) high t g n
    rwa [Nat.add_comm high n] at this
  have HEND : Hid (short (fl L (addm p (nth f) high t g g.length)) = red p (plus f t g high)) := Lib.hid
    (short_red (by omega) (bnd_fl (addm_bnd (by omega) fun i _ => hf.at (by omega) i)) ((addm_cg (by omega)).trans (Cg.plus (Cg.of_eq (c_fl_nth (by omega))) t g high)))
  have HFR : Hid (f = fl f.length (nth f)) := Lib.hid (fl_of f).symm
  have HPAD := Lib.hid fun n h => pad f n h
  obtain ⟨J, hJ⟩ : ∃ J, f.length = J := ⟨_, rfl⟩
  obtain ⟨K, hK⟩ : ∃ K, g.length = K := ⟨_, rfl⟩
  have HK := Lib.hid hK
  have HJ := Lib.hid hJ
  rw [hJ] at HCL hl hLd HFR HPAD ⊢
  rw [hK] at hl2 hLd HEND ⊢
  have hLb : L ≤ 800 := by omega
  clear hf hg hr hr2 hnil hJ hK
  go_enter Tryd.func32, Tryd.ntmps32
  go_wp2_with (first
    | (go_at_call 33; (with_reducible refine (HCL.out _ (Ex.refl _)).mono ?_); rintro e w1 ⟨u, rfl, hrow, hx1⟩
       obtain ⟨ad, cp, rfl, _, _, hn1⟩ := hrow.out.reads
       rw [HJ.out]
       have HR1 : Hid (Row 3 .i64 w1 w.heap.size (.slice ad J cp) (fl J (nth f))) := Lib.hid (by
         have := hrow.out
         rw [HJ.out] at this
         rw [← HFR.out]; exact this)
       have HX1 := Lib.hid hx1
       clear hrow hn1 hx1))
  go_loopg [11] (800 - J) (fun k vSLOT x => ∃ (n : Nat) (ad : Option Addr) (cp : Nat), vSLOT = .slice ad n cp ∧ J ≤ n ∧ n ≤ L ∧ Hid (Row 3 .i64 x w.heap.size (.slice ad n cp) (fl n (nth f))) ∧ Hid (k = 800 - n) ∧ Ex w x)
  case atStart => exact ⟨J, ad, cp, rfl, by omega, by omega, HR1, Lib.hid rfl, HX1.out⟩
  case round =>
    obtain ⟨n, ad, cp, rfl, hn1, hn2, hR, hk, hx⟩ := hrel
    by_cases hlt : n < K + high
    · have c1 := cell_fresh wr (.int .i64 0) 3
      have HX := Lib.hid (hx.alloc (.cells #[.int .i64 0] 3))
      have HRA := Lib.hid (hR.out.ex ((Ex.refl wr).alloc (.cells #[.int .i64 0] 3)))
      have hlI : (n : Int) < (K : Int) + (high : Int) := by omega
      go_wp2_with (
        (at_builtin; refine wpList_append_int rfl _ _ 38 rfl w.heap.size 3 .i64 8 Tryd.underlying38 info_int _ (fl n (nth f)) rfl HRA.out 0 wr.heap.size rfl c1 (by rw [fl_length]; unfold maxLen; omega) (by rw [fl_length]; omega) HX.out.size ?_; intro v1 w3 hown3 hgrow3 hat3
         have HX3 := Lib.hid (HRA.out.grown HX.out hgrow3)
         rw [HPAD.out n hn1] at hown3
         obtain ⟨ad3, cp3, rfl, _, _, _⟩ := hown3.reads
         rw [fl_length] at hown3 ⊢
         have HR3 := Lib.hid hown3
         clear hown3 hgrow3 hat3 c1))
      go_roundg (800 - (n + 1))
      case measure => have := hk.out; omega
      case rel => exact ⟨n + 1, ad3, cp3, rfl, by omega, by omega, HR3, Lib.hid rfl, HX3.out⟩
    · have e : n = L := by omega
      subst e
      have hlI : ¬ (n : Int) < (K : Int) + (high : Int) := by omega
      have HR4 : Hid (Row 3 .i64 wr w.heap.size (.slice ad n cp) (fl n (addm p (nth f) high t g 0))) := Lib.hid (by rw [addm_zero]; exact hR.out)
      obtain ⟨S, hSd⟩ : ∃ S, addm p (nth f) high t g = S := ⟨_, rfl⟩
      rw [hSd] at HF HS HR4 HEND
      simp only [hSd] at HH
      clear hSd
      have HXW := Lib.hid hx
      have hKL : K + high ≤ n := by omega
      go_wp2
      go_loopg [28] K (fun k vSLOT x => ∃ i : Nat, i ≤ K ∧ vSLOT = .int .i64 i ∧ Hid (Row 3 .i64 x w.heap.size (.slice ad n cp) (fl n (S i))) ∧ Hid (k = K - i) ∧ Ex w x)
      case atStart => exact ⟨0, by omega, rfl, HR4, Lib.hid rfl, HXW.out⟩
      case round =>
        obtain ⟨i, hi, rfl, hRi, hk, hx⟩ := hrel
        by_cases hlt : i < K
        · rcases (HRG.out _ hx) with hn | ⟨bg, og, rfl, hc⟩
          · have := HK.out; rw [hn] at this; simp at this; omega
          have hci := hc i (by have := HK.out; omega)
          have hform := hRi.out.form
          rw [fl_length] at hform
          rcases hform with ⟨_, f2⟩ | ⟨bo, cp2, f1, fb1, fb2, fc1, fc2, fx, fy⟩
          · have := congrArg List.length f2
            rw [fl_length] at this
            simp at this
            omega
          simp only [Value.slice.injEq, true_and] at f1
          obtain ⟨rfl, rfl⟩ := f1
          obtain ⟨_, _, hcf, hfr⟩ := hRi.out.flat
          have hcs := hcf (i + high) (by omega)
          have hfs := hfr (i + high)
          have HE := HS.out i
          rw [← HH.out i] at HE
          obtain ⟨x0, x1⟩ := HF.out i (i + high) (by omega)
          obtain ⟨y0, y1⟩ := HG.out i
          have HS0 := hRi.out.flset (i + high) ((S i (i + high) + t * nth g i) % p)
          rw [HE] at HS0
          have HS1 := Lib.hid HS0.1
          have HS2 := Lib.hid (ex_grown hx HS0.2 (by intro k hk; cases hk; exact fb1))
          obtain ⟨X, hX⟩ : ∃ X, S i (i + high) = X := ⟨_, rfl⟩
          obtain ⟨Y, hY⟩ : ∃ Y, nth g i = Y := ⟨_, rfl⟩
          rw [hX] at hcs x0 x1 HS1 HS2
          rw [hY] at hci y0 y1 HS1 HS2
          have m := Eu.abs_mul_le (a := t) (b := Y) (B := 1000000) (C := 997) (by omega) (by omega) (by omega) (by omega)
          obtain ⟨m0, m1⟩ := m
          unfold maxLen at fc2
          have hihN : i + high < n := by omega
          clear hc hcf hfr HE HS0 hX hY fx fy fb1 fb2
          go_wp2_with (go_at_call 44; (with_reducible refine (refmod_any (X + t * Y) p _ (by omega) (by omega)).mono ?_); rintro e w' ⟨rfl, rfl⟩)
          go_roundg (K - (i + 1))
          case measure => have := hk.out; omega
          case rel => exact ⟨i + 1, by omega, by go_num, HS1, Lib.hid rfl, HS2.out⟩
        · have e : i = K := by omega
          subst e
          have hform := hRi.out.form
          rw [fl_length] at hform
          have hcp : n ≤ cp ∧ cp ≤ 9223372036854775807 := by
            rcases hform with ⟨f1, f2⟩ | ⟨bo, cp2, f1, _, _, fc1, fc2, _, _⟩
            · simp only [Value.slice.injEq] at f1
              omega
            · simp only [Value.slice.injEq, true_and] at f1
              unfold maxLen at fc2
              omega
          have hnl : ad = none → cp = 0 := by
            obtain ⟨ad2, cp2, h1, _, _, h3⟩ := hRi.out.reads
            simp only [Value.slice.injEq] at h1
            obtain ⟨rfl, _, rfl⟩ := h1
            exact h3
          have HT := Lib.hid (refShort_any (fl n (S i)) ad cp wr (by rw [fl_length]; omega) hRi.out.read hnl (by rw [fl_length]; exact hcp.1) hcp.2)
          rw [fl_length] at HT
          clear hform hnl
          go_wp2_with (go_at_call 20; (with_reducible refine (HT.out).mono ?_); rintro e w5 ⟨u, rfl, hu, hw5⟩)
          go_ret
          exact ⟨_, rfl, Lib.hid (by rw [← HEND.out]; exact hu.out.less hx.size), hx.trans hw5⟩

end Go.Proofs.YtlpnopliblaknaaDoor

namespace Go.Proofs.YtlpnopliblaknaaDoor
open Go.RowKit
open Pr Po

theorem mul_len (f g : List Int) : (mul f g).length ≤ f.length + g.length := by
  induction f with
  | nil => simp [mul]
  | cons a f ih =>
    rw [mul, add_length, sc_length, List.length_cons, List.length_cons]
    omega

theorem prod_len (p : Int) (f g : List Int) (k : Nat) : (red p (mul (f.take k) g)).length ≤ f.length + g.length := by
  have h1 := red_length p (mul (f.take k) g)
  have h2 := mul_len (f.take k) g
  rw [List.length_take] at h2
  omega


end Go.Proofs.YtlpnopliblaknaaDoor

namespace Go.Proofs.YtlpnopliblaknaaDoor
open Go.RowKit
open Pr Po

/-- A row that may be read comes back, alone, or with no error. -/
def Slc1 (h : List Int) (N : Nat) (w : World) (e : Ending) (w2 : World) : Prop := ∃ a2 c2, e = .returned (.slice a2 N c2) ∧ Hid (Reads w2 .i64 a2 h) ∧ Hid (a2 = none → c2 = 0) ∧ Ex w w2
def Slc (h : List Int) (N : Nat) (w : World) (e : Ending) (w2 : World) : Prop := ∃ a2 c2, e = .returned (.tuple #[.slice a2 N c2, .int .i64 0]) ∧ Hid (Reads w2 .i64 a2 h) ∧ Hid (a2 = none → c2 = 0) ∧ Ex w w2
def Slc2 (q r : List Int) (N M : Nat) (w : World) (e : Ending) (w2 : World) : Prop := ∃ a2 c2 a3 c3, e = .returned (.tuple #[.slice a2 N c2, .slice a3 M c3, .int .i64 0]) ∧ Hid (Reads w2 .i64 a2 q) ∧ Hid (a2 = none → c2 = 0) ∧ Hid (Reads w2 .i64 a3 r) ∧ Hid (a3 = none → c3 = 0) ∧ Ex w w2

theorem Row1.slc {h : List Int} {N : Nat} {w w2 : World} {e : Ending} (k : Row1 h w e w2) (hN : h.length = N) : Slc1 h N w e w2 := by
  obtain ⟨v, rfl, hrow, hx⟩ := k
  obtain ⟨a2, c2, rfl, _, hr, hn⟩ := hrow.out.reads
  exact ⟨a2, c2, by rw [hN], Lib.hid hr, Lib.hid hn, hx⟩
theorem Rowed.slc {h : List Int} {N : Nat} {w w2 : World} {e : Ending} (k : Rowed h w e w2) (hN : h.length = N) : Slc h N w e w2 := by
  obtain ⟨v, rfl, hrow, hx⟩ := k
  obtain ⟨a2, c2, rfl, _, hr, hn⟩ := hrow.out.reads
  exact ⟨a2, c2, by rw [hN], Lib.hid hr, Lib.hid hn, hx⟩
theorem Rows2.slc {q r : List Int} {N M : Nat} {w w2 : World} {e : Ending} (k : Rows2 q r w e w2) (hN : q.length = N) (hM : r.length = M) : Slc2 q r N M w e w2 := by
  obtain ⟨v, u, rfl, hrow, hrow2, _, hx⟩ := k
  obtain ⟨a2, c2, rfl, _, hr, hn⟩ := hrow.out.reads
  obtain ⟨a3, c3, rfl, _, hr3, hn3⟩ := hrow2.out.reads
  exact ⟨a2, c2, a3, c3, by rw [hN, hM], Lib.hid hr, Lib.hid hn, Lib.hid hr3, Lib.hid hn3, hx⟩

theorem both_can {p : Int} {f g : List Int} (hp : Prm p) (p9 : p ≤ 997) (hf : Po.Can p f) (hg : Po.Can p g) (h1 : f.length ≤ 40) (h2 : g.length ≤ 40) : bothE p f g = 0 := bothE_zero.mpr ⟨hp, p9, h1, hf, h2, hg⟩









theorem mods_step {xs : List Int} {p : Int} {i : Nat} (h : i < xs.length) : (xs.take i).map (· % p) ++ [nth xs i % p] = (xs.take (i + 1)).map (· % p) := by
  rw [nth_eq h, ← List.take_append_getElem h, List.map_append]
  rfl

theorem mods_length (xs : List Int) (p : Int) (i : Nat) (h : i ≤ xs.length) : ((xs.take i).map (· % p)).length = i := by
  rw [List.length_map, List.length_take]; omega


end Go.Proofs.YtlpnopliblaknaaDoor

namespace Go.Proofs.YtlpnopliblaknaaDoor
open Go.RowKit
open Pr Po

theorem ring_comm (p : Int) (hp : 0 < p) (F G : List Int) : red p (mul G F) = red p (mul F G) := red_cg hp (Cg.comm p G F)
theorem ring_assoc {p : Int} (hp : 0 < p) (F G H : List Int) : red p (mul F (red p (mul G H))) = red p (mul (red p (mul F G)) H) :=
  red_cg hp (((Cg.refl p F).mul (cg_red p _)).trans ((Cg.of_eq fun i => (mul_assoc F G H i).symm).trans ((cg_red p (mul F G)).symm.mul (Cg.refl p H))))
theorem ring_dist {p : Int} (hp : 0 < p) (F G H : List Int) : red p (add (red p (mul F G)) (red p (mul F H))) = red p (mul F (red p (add G H))) :=
  red_cg hp (((cg_red p _).add (cg_red p _)).trans ((Cg.of_eq fun i => by rw [c_add, mul_add]).trans ((Cg.refl p F).mul (cg_red p _).symm)))

/-- How long a quotient is. -/
theorem dv_len {p : Int} {f g q r : List Int} (hp : Prm p) (hg : Po.Can p g) (h0 : g ≠ []) (hD : IsDv p f g q r) : q = [] ∨ q.length + g.length ≤ f.length + 1 := by
  by_cases hq : q = []
  · exact .inl hq
  · have p2 := hp.1
    have e : red p (mul q g) = red p (add f (sc (-1) r)) := red_cg (by omega) fun i => by
      have := hD.2.2.2 i
      rw [c_add] at this
      rw [c_add, c_sc]
      rwa [show c (mul q g) i - (c f i + -1 * c r i) = c (mul q g) i + c r i - c f i by omega]
    have l1 := red_mul_length hp hD.1 hg hq h0
    have l2 := red_length p (add f (sc (-1) r))
    rw [← e, l1, add_length, sc_length] at l2
    have l3 := hD.2.2.1
    have l4 := List.length_pos_iff.mpr hq
    exact .inr (by omega)

end Go.Proofs.YtlpnopliblaknaaDoor

namespace Go.Proofs.YtlpnopliblaknaaDoor
open Go.RowKit Go.Shelf
open Pr Po

attribute [local go_sem] Oper.semAt_some

/-- A place and the number there: a number within reach. -/
abbrev At1 := { x : Int × Int // 0 ≤ x.2 ∧ x.2 ≤ 1000 }
def encAt (x : At1) : Array Value := #[.int .i64 x.1.1, .int .i64 x.1.2]

/-- From behind: what comes as number j. -/
def backAt (f : List Int) (h : ∀ i, 0 ≤ nth f i ∧ nth f i ≤ 1000) (j : Nat) : At1 := ⟨(((f.length - 1 - j : Nat) : Int), nth f (f.length - 1 - j)), h _⟩
def backs (f : List Int) (h : ∀ i, 0 ≤ nth f i ∧ nth f i ≤ 1000) (k : Nat) : List At1 := (List.range k).map (backAt f h)
theorem backs_succ (f : List Int) (h : ∀ i, 0 ≤ nth f i ∧ nth f i ≤ 1000) (k : Nat) : backs f h (k + 1) = backs f h k ++ [backAt f h k] := by simp [backs, List.range_succ]
theorem backs_length (f : List Int) (h : ∀ i, 0 ≤ nth f i ∧ nth f i ≤ 1000) (k : Nat) : (backs f h k).length = k := by simp [backs]

/-- The box holds the slice, and the slice reads as f. -/
def Src (W : World) (Bs : Nat) (a : Option Addr) (cap : Nat) (f : List Int) : Prop :=
  W.cell? ⟨Bs, 0, none⟩ = some (.slice a f.length cap) ∧ (f = [] ∨ ∃ b off, a = some ⟨b, off, none⟩ ∧ ∀ j, j < f.length → W.cell? ⟨b, off + j, none⟩ = some (.int .i64 (nth f j)))
theorem Src.kept {W W2 : World} {Bs cap : Nat} {a : Option Addr} {f : List Int} (h : Src W Bs a cap f) (hk : ∀ x v, W.cell? x = some v → (x.block = Bs ∨ (∃ y, a = some y ∧ x.block = y.block)) → W2.cell? x = some v) : Src W2 Bs a cap f := by
  refine ⟨hk _ _ h.1 (.inl rfl), ?_⟩
  rcases h.2 with h2 | ⟨b, off, h2, h3⟩
  · exact .inl h2
  · exact .inr ⟨b, off, h2, fun j hj => hk _ _ (h3 j hj) (.inr ⟨_, h2, rfl⟩)⟩




end Go.Proofs.YtlpnopliblaknaaDoor

namespace Go.Proofs.YtlpnopliblaknaaDoor
open Go.RowKit Go.Shelf
open Pr Po

attribute [local go_sem] Oper.semAt_some

/-- HORNER, so far. -/
def hv (p y : Int) (l : List At1) : Int := l.foldl (fun s x => (s * y + x.1.2) % p) 0
theorem hv_snoc (p y : Int) (l : List At1) (x : At1) : hv p y (l ++ [x]) = (hv p y l * y + x.1.2) % p := by simp [hv]
theorem hv_bound {p : Int} (hp : 0 < p) (y : Int) (l : List At1) : 0 ≤ hv p y l ∧ hv p y l < p := by
  rcases List.eq_nil_or_concat l with rfl | ⟨l2, x, rfl⟩
  · exact ⟨Int.le_refl _, hp⟩
  · rw [List.concat_eq_append, hv_snoc]
    exact ⟨Int.emod_nonneg _ (by omega), Int.emod_lt_of_pos _ hp⟩
theorem hv_backs {p : Int} (x : Int) (f : List Int) (h : ∀ i, 0 ≤ nth f i ∧ nth f i ≤ 1000) : ∀ k, k ≤ f.length → hv p (x % p) (backs f h k) = ev (f.drop (f.length - k)) x % p := by
  intro k
  induction k with
  | zero =>
    intro _
    rw [Nat.sub_zero, List.drop_length]
    show (0 : Int) = ev [] x % p
    simp [ev]
  | succ k ih =>
    intro hk
    rw [backs_succ, hv_snoc, ih (by omega)]
    have h1 := (horner (p := p) (f := f) (k := f.length - 1 - k) (by omega) x (y := ev (f.drop (f.length - k)) x % p) (by rw [show f.length - 1 - k + 1 = f.length - k by omega])).2.2
    rw [show f.length - (k + 1) = f.length - 1 - k by omega, ← h1]
    rfl

theorem ex_set (w : World) (k b : Nat) (v : Value) (h : k ≠ b) : (w.setCell ⟨b, 0, none⟩ v).heap[k]? = w.heap[k]? := Below.heap_setCell _ _ _ _ h



end Go.Proofs.YtlpnopliblaknaaDoor

namespace Go.Proofs.YtlpnopliblaknaaDoor
open Go.RowKit
open Pr Po

theorem val_step {p : Int} {f : List Int} {i : Nat} (hi : i < f.length) (x : Int) : (ev (f.take i) x % p + nth f i * (x ^ i % p)) % p = ev (f.take (i + 1)) x % p := by
  rw [ev_take hi, Int.emod_add_emod, ← Int.add_emod_emod, Int.mul_emod, Int.emod_emod, ← Int.mul_emod, Int.add_emod_emod]
  rfl

theorem pow_step {p : Int} (x : Int) (i : Nat) : x ^ i % p * (x % p) % p = x ^ (i + 1) % p := by
  rw [← Int.mul_emod, Int.pow_succ]


end Go.Proofs.YtlpnopliblaknaaDoor

namespace Go.Proofs.YtlpnopliblaknaaDoor
open Go.RowKit
open Pr Po

theorem ev_red {p : Int} (f : List Int) (x : Int) : ev (red p f) x % p = ev f x % p :=
  Int.emod_eq_emod_iff_emod_sub_eq_zero.mpr (Int.emod_eq_zero_of_dvd (ev_cg (cg_red p f) x))

end Go.Proofs.YtlpnopliblaknaaDoor
