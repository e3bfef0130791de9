/-
  The walk of Farey.
-/
import Derived.Test.YtbomiohgdlcmdaaPairs
import Derived.Test.YtbomiohgdlcmdaaFrSums
import Derived.Deep.CutRange
import Derived.Deep.DeepCutAuto
import Derived.Test.YtbomiohgdlcmdaaFrGo
import Derived.RegionTactic
import Derived.BigRegion
namespace Go.Proofs.Ytbomiohgdlcmdaa
open Go.RowKit
open Eu Fr

theorem Two.grown {T : TypeId} {a b : World} {c : Nat} {x y : Int} {row : Option Nat} (h : Two T a c x y) (hg : a.grownBy b row) (hne : row ≠ some c) : Two T b c x y := by
  unfold Two at *
  rw [hg.block c (Array.getElem?_eq_some_iff.1 h).1 (by first | exact hne | exact fun e => hne e.symm), h]

theorem RowR.own {e : TypeId} {w : World} {base : Nat} {v : Value} {l : List (Int × Int)} (h : RowR e w base v l) : ∀ c, v.ownBlock = some c → base ≤ c := fun c hc => by
  rcases h.form with ⟨rfl, _⟩ | ⟨g, cap, rfl, hb, _⟩
  · cases hc
  · have h2 : some g = some c := hc
    cases h2
    exact hb

theorem RowR.less {e : TypeId} {w : World} {base base2 : Nat} {v : Value} {l : List (Int × Int)} (h : RowR e w base v l) (hb : base2 ≤ base) : RowR e w base2 v l := by
  refine ⟨h.1, ?_⟩
  rcases h.2 with hn | ⟨g, cap, cur, h1, h2, rest⟩
  · exact .inl hn
  · exact .inr ⟨g, cap, cur, h1, by omega, rest⟩

theorem RowR.set2 {e : TypeId} {w : World} {base c : Nat} {v : Value} {l : List (Int × Int)} {x y : Value} (h : RowR e w base v l) (hc : c < base) : RowR e ((w.setCell ⟨c, 0, none⟩ x).setCell ⟨c, 1, none⟩ y) base v l := by
  refine ⟨h.1, ?_⟩
  rcases h.2 with hn | ⟨g, cap, cur, h1, h2, hg, rest⟩
  · exact .inl hn
  · refine .inr ⟨g, cap, cur, h1, h2, ?_, rest⟩
    unfold World.setCell
    simp only [Array.getElem?_modify]
    rw [if_neg (by omega), if_neg (by omega), hg]

theorem rowR_one {w : World} {base b : Nat} (T : TypeId) (x y : Int) (hb : base ≤ w.heap.size) (h : b = w.heap.size) : RowR T (w.alloc (.cells #[.int .i64 x, .int .i64 y] T)) base (.slice (some ⟨b, 0, none⟩) 1 1) [(x, y)] := by
  subst h
  exact rowR_new T w base hb [(x, y)] _ rfl (by unfold maxLen; simp)

theorem info_frac : (Try.prog.info? 23).map (fun i => (i.zero, i.size, i.bytes)) = some (some (.agg #[.int .i64 0, .int .i64 0]), 2, 16) := by kernel_rfl

/-- A row of pairs of natural numbers. -/
def zz (l : List (Nat × Nat)) : List (Int × Int) := l.map fun x => ((x.1 : Int), (x.2 : Int))
theorem zz_append (l m : List (Nat × Nat)) : zz (l ++ m) = zz l ++ zz m := by simp [zz]
theorem zz_length (l : List (Nat × Nat)) : (zz l).length = l.length := by simp [zz]

/-- What Farey hands back. -/
def FareySays (l : List (Int × Int)) (w : World) (e : Ending) (w2 : World) : Prop := ∃ v, e = .returned (.tuple #[v, .int .i64 0]) ∧ Hid (RowR 23 w2 w.heap.size v l) ∧ Ex w w2

set_option maxHeartbeats 400000 in
theorem farey_no (n : Int) (w : World) (h : n < 1 ∨ 30 < n) : Calls Try.prog 13 #[.int .i64 n] w (Says (.tuple #[.slice none 0 0, .int .i64 1]) w) := by
  rcases h with h | h
  all_goals
    go_enter Try.func13, Try.ntmps13
    go_wp2
    go_ret2
    exact .same

set_option maxRecDepth 100000 in
set_option maxHeartbeats 2000000 in
theorem farey_ok (n : Nat) (w : World) (h1 : 1 ≤ n) (h2 : n ≤ 30) : Calls Try.prog 13 #[.int .i64 n] w (FareySays (zz (FLn n)) w) := by
  obtain ⟨l0, hl0, hwk⟩ := okW_at h1 h2
  have HF := Lib.hid hl0
  have HW := Lib.hid hwk
  have HLEN : Hid ((FLn n).length ≤ 1000) := Lib.hid (by
    have := (FLn_facts h1 h2).2.2.2.1.length_eq
    have := prs_len n h2
    omega)
  clear hl0 hwk
  have hn1 : (1 : Int) ≤ (n : Int) := by omega
  have hn2 : (n : Int) ≤ 30 := by omega
  go_enter Try.func13, Try.ntmps13
  go_wp2
  go_loopg [6] l0.length (fun k v6 wr => ∃ (a1 a2 b1 b2 k2 : Nat) (l1 l2 : List (Nat × Nat)), a1 ≤ 2000 ∧ a2 ≤ 2000 ∧ b1 ≤ 2000 ∧ b2 ≤ 2000 ∧ Hid (FLn n = l1 ++ l2) ∧ Hid (wk k2 n (a1, a2) (b1, b2) l2 = true) ∧ Hid (RowR 23 wr (w.heap.size + 2) v6 (zz l1)) ∧ Hid (k = l2.length) ∧ Hid (Two 23 wr w.heap.size a1 a2) ∧ Hid (Two 23 wr (w.heap.size + 1) b1 b2) ∧ Ex w wr)
  case atStart => exact ⟨0, 1, 1, n, 300, [(0, 1)], l0, by omega, by omega, by omega, by omega, HF, HW, Lib.hid (rowR_one _ (0 : Int) (1 : Int) (by simp) (by simp)), Lib.hid rfl, Lib.hid (((Two.at rfl).ex ((Ex.refl _).alloc _)).ex ((Ex.refl _).alloc _)), Lib.hid ((Two.at (by simp)).ex ((Ex.refl _).alloc _)), (((Ex.refl w).alloc _).alloc _).alloc _⟩
  case round =>
    obtain ⟨a1, a2, b1, b2, k2, l1, l2, u1, u2, u3, u4, hF, hK, hR, hk, h4, h5, hw⟩ := hrel
    have ca0 := h4.out.c0
    have ca1 := h4.out.c1
    by_cases hlt : a1 < a2
    · obtain ⟨k3, l3, t, ht, rfl, e1, e2, e3, e4, e5, e6, hK3⟩ := wk_go hK.out hlt
      simp only at ht e1 e2 e3 e4 e5 hK3
      have HF3 : Hid (FLn n = (l1 ++ [(b1, b2)]) ++ l3) := Lib.hid (by rw [hF.out]; simp)
      have HL1 : Hid (l1.length + 1 ≤ 1000) := Lib.hid (by
        have := HLEN.out
        rw [HF3.out] at this
        simp only [List.length_append, List.length_singleton] at this
        omega)
      have HR1 := Lib.hid (hR.out.ex ((Ex.refl wr).alloc (.cells #[.int .i64 b1, .int .i64 b2] 23)))
      have H41 := Lib.hid (h4.out.ex ((Ex.refl wr).alloc (.cells #[.int .i64 b1, .int .i64 b2] 23)))
      have H51 := Lib.hid (h5.out.ex ((Ex.refl wr).alloc (.cells #[.int .i64 b1, .int .i64 b2] 23)))
      have HX1 := Lib.hid (hw.alloc (.cells #[.int .i64 b1, .int .i64 b2] 23))
      have c0 := (Two.new 23 wr (b1 : Int) (b2 : Int)).c0
      have c1 := (Two.new 23 wr (b1 : Int) (b2 : Int)).c1
      have HSZ : Hid (w.heap.size + 2 ≤ (wr.alloc (.cells #[.int .i64 b1, .int .i64 b2] 23)).heap.size) := Lib.hid (by have := H51.out.lt; omega)
      have cb0 := h5.out.c0
      have cb1 := h5.out.c1
      obtain ⟨p1, hp1⟩ : ∃ p1, t * b1 = p1 := ⟨_, rfl⟩
      obtain ⟨p2, hp2⟩ : ∃ p2, t * b2 = p2 := ⟨_, rfl⟩
      have q1 : p1 ≤ 61 * 30 := by rw [← hp1]; exact Nat.mul_le_mul e6 (by omega)
      have q2 : p2 ≤ 61 * 30 := by rw [← hp2]; exact Nat.mul_le_mul e6 (by omega)
      rw [hp1] at e4 hK3
      rw [hp2] at e5 hK3
      obtain ⟨d1, hd1⟩ : ∃ d1, p1 - a1 = d1 := ⟨_, rfl⟩
      obtain ⟨d2, hd2⟩ : ∃ d2, p2 - a2 = d2 := ⟨_, rfl⟩
      rw [hd1, hd2] at hK3
      have HK3 := Lib.hid hK3
      have f1 : (t : Int) * (b1 : Int) = (p1 : Int) := by rw [← hp1, Int.natCast_mul]
      have f2 : (t : Int) * (b2 : Int) = (p2 : Int) := by rw [← hp2, Int.natCast_mul]
      have f3 : (p1 : Int) - (a1 : Int) = (d1 : Int) := by omega
      have f4 : (p2 : Int) - (a2 : Int) = (d2 : Int) := by omega
      have f5 : ((n : Int) + (a2 : Int)) / (b2 : Int) = (t : Int) := by rw [ht]; simp
      have f6 : ((n : Int) + (a2 : Int)).tdiv (b2 : Int) = (t : Int) := by rw [Int.tdiv_eq_ediv_of_nonneg (by omega), f5]
      have f7 : (b2 : Int) ≠ 0 := by omega
      have f8 : (t : Int) ≤ 61 := by omega
      have HD : Hid (d1 ≤ 2000 ∧ d2 ≤ 2000) := Lib.hid (by omega)
      clear hK3 hp1 hp2 hd1 hd2 ht hR
      go_upto_region 7 with (
        (at_builtin; refine wpList_append_pair rfl _ _ 34 rfl (w.heap.size + 2) 23 Try.underlying34 info_frac _ (zz l1) rfl HR1.out ((b1 : Int), (b2 : Int)) wr.heap.size rfl c0 c1 (by rw [zz_length]; have := HL1.out; unfold maxLen; omega) (by rw [zz_length]; have := HL1.out; omega) HSZ.out ?_; intro v3 w3 hown3 hgrow3 _
         have HX3 := Lib.hid ((HR1.out.less (base2 := w.heap.size) (by omega)).grown HX1.out hgrow3)
         have H43 := Lib.hid (H41.out.grown hgrow3 (fun e => by have := HR1.out.own _ e; omega))
         have H53 := Lib.hid (H51.out.grown hgrow3 (fun e => by have := HR1.out.own _ e; omega))
         have HR3 : Hid (RowR 23 w3 (w.heap.size + 2) v3 (zz (l1 ++ [(b1, b2)]))) := Lib.hid (by rw [zz_append]; exact hown3)
         clear hgrow3 hown3 c0 c1 ca0 ca1 cb0 cb1))
      have e9 : w.heap.size ≠ w.heap.size + 1 := by omega
      have e10 : w.heap.size + 1 ≠ w.heap.size := by omega
      have ca0 := H43.out.c0
      have ca1 := H43.out.c1
      have caf0 := H43.out.free 0
      have caf1 := H43.out.free 1
      have cb0 := H53.out.c0
      have cb1 := H53.out.c1
      have cbf0 := H53.out.free 0
      have cbf1 := H53.out.free 1
      go_wp2
      go_region
      go_wp2
      go_roundg l3.length
      case measure => have := hk.out; simp at this; omega
      case rel => exact ⟨b1, b2, d1, d2, k3, l1 ++ [(b1, b2)], l3, by omega, by omega, HD.out.1, HD.out.2, HF3, HK3, Lib.hid (((HR3.out.set2 (by omega)).set2 (by omega)).ex (Ex.refl _).drew), Lib.hid rfl, Lib.hid (((H43.out.set).off2 (by omega)).ex (Ex.refl _).drew), Lib.hid (((H53.out.off2 (by omega)).set).ex (Ex.refl _).drew), ((HX3.out.set2 (by omega) _ _).set2 (by omega) _ _).drew⟩
    · have HK2 := Lib.hid (wk_end hK.out hlt)
      have g1 : ¬ (a1 : Int) < (a2 : Int) := by omega
      go_wp2
      go_ret2
      refine ⟨_, rfl, Lib.hid ?_, hw⟩
      have := hF.out
      rw [HK2.out, List.append_nil] at this
      rw [this]
      exact hR.out.less (by omega)

end Go.Proofs.Ytbomiohgdlcmdaa
