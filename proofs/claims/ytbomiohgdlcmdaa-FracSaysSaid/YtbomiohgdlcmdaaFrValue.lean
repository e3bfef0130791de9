/-
  The walks over package frac: what a list is worth.
-/
import Derived.Test.YtbomiohgdlcmdaaFrOf
namespace Go.Proofs.Ytbomiohgdlcmdaa
open Go.RowKit
open Eu Fr

/-- A number that may stand at place i. -/
def okAt (l : List Int) (i : Nat) : Prop := 0 ≤ nth l i ∧ nth l i ≤ 1000000 ∧ (0 < i → 1 ≤ nth l i)
/-- Numbers that may stand so. -/
def OkT (l : List Int) : Prop := ∀ i, i < l.length → okAt l i
/-- What is wrong with a list. -/
def Chk (l : List Int) (r : Int) : Prop := (l = [] ∧ r = 4) ∨ (l ≠ [] ∧ OkT l ∧ r = 0) ∨ (¬ OkT l ∧ r = 1)

theorem chk_some (l : List Int) : ∃ r, Chk l r ∧ (r = 0 ∨ r = 1 ∨ r = 4) := by
  by_cases h : l = []
  · exact ⟨4, .inl ⟨h, rfl⟩, by omega⟩
  · by_cases h2 : OkT l
    · exact ⟨0, .inr (.inl ⟨h, h2, rfl⟩), by omega⟩
    · exact ⟨1, .inr (.inr ⟨h2, rfl⟩), by omega⟩

set_option maxHeartbeats 1000000 in
theorem terms_any (l : List Int) (a : Option Addr) (cap : Nat) (w : World) (hl : l.length ≤ maxLen) (hr : Reads w .i64 a l) (r : Int) (hc : Chk l r) :
    Calls Try.prog 23 #[.slice a l.length cap] w (Says (.int .i64 r) w) := by
  unfold maxLen at hl
  rcases hr with rfl | ⟨b, off, rfl, hcell⟩
  · have e : r = 4 := by
      rcases hc with h | h | h
      · exact h.2
      · exact absurd rfl h.1
      · exact absurd (fun i hi => by simp at hi) h.1
    subst e
    clear hc
    go_enter Try.func23, Try.ntmps23
    go_wp2
    go_ret
    exact .same
  · by_cases h0 : l = []
    · subst h0
      have e : r = 4 := by
        rcases hc with h | h | h
        · exact h.2
        · exact absurd rfl h.1
        · exact absurd (fun i hi => by simp at hi) h.1
      subst e
      clear hc hcell
      go_enter Try.func23, Try.ntmps23
      go_wp2
      go_ret
      exact .same
    have hpos : 0 < l.length := List.length_pos_iff.mpr h0
    have HN := Lib.hid h0
    have HC := Lib.hid hc
    have HCELL := Lib.hid hcell
    have hn0 : ((l.length : Int) == 0) = false := by simp; omega
    clear h0 hc hcell
    go_enter Try.func23, Try.ntmps23
    go_wp2
    go_loopg [10] l.length (fun k v10 wr => ∃ i : Nat, i ≤ l.length ∧ v10 = .int .i64 i ∧ Hid (k = l.length - i) ∧ Hid (∀ j, j < i → okAt l j) ∧ Ex w wr)
    case atStart => exact ⟨0, Nat.zero_le _, rfl, Lib.hid rfl, Lib.hid (fun j hj => absurd hj (Nat.not_lt_zero _)), Ex.refl _⟩
    case round =>
      obtain ⟨i, hi, rfl, hk, hn, hw⟩ := hrel
      by_cases hlt : i < l.length
      · have hcx := hw.cell (HCELL.out i hlt)
        obtain ⟨n, hnn⟩ : ∃ n, nth l i = n := ⟨_, rfl⟩
        rw [hnn] at hcx
        have HNN := Lib.hid hnn
        by_cases c1 : n < 0
        · have hb : ¬ okAt l i := fun h => by have := h.1; rw [HNN.out] at this; omega
          clear hnn
          have hr : r = 1 := by
            rcases HC.out with h | h | h
            · have := HN.out; rw [h.1] at hlt; simp at hlt
            · exact absurd (h.2.1 i hlt) hb
            · exact h.2
          have HR := Lib.hid hr
          clear hb hr
          go_wp2
          go_ret
          exact ⟨by rw [HR.out]; rfl, hw⟩
        by_cases c2 : 1000000 < n
        · have hb : ¬ okAt l i := fun h => by have := h.2.1; rw [HNN.out] at this; omega
          clear hnn
          have hr : r = 1 := by
            rcases HC.out with h | h | h
            · have := HN.out; rw [h.1] at hlt; simp at hlt
            · exact absurd (h.2.1 i hlt) hb
            · exact h.2
          have HR := Lib.hid hr
          clear hb hr
          go_wp2
          go_ret
          exact ⟨by rw [HR.out]; rfl, hw⟩
        by_cases c3 : n = 0
        · subst c3
          by_cases c4 : 0 < i
          · have hb : ¬ okAt l i := fun h => by have := h.2.2 c4; rw [HNN.out] at this; omega
            clear hnn c1 c2
            have hr : r = 1 := by
              rcases HC.out with h | h | h
              · have := HN.out; rw [h.1] at hlt; simp at hlt
              · exact absurd (h.2.1 i hlt) hb
              · exact h.2
            have HR := Lib.hid hr
            clear hb hr
            go_wp2
            go_ret
            exact ⟨by rw [HR.out]; rfl, hw⟩
          · have hb : okAt l i := ⟨by rw [hnn]; omega, by rw [hnn]; omega, fun h => absurd h c4⟩
            obtain rfl : i = 0 := by omega
            rw [Nat.add_zero] at hcx
            clear hnn c1 c2 c4
            have HOK := Lib.hid hb
            clear hb
            go_wp2
            go_roundg (l.length - (0 + 1))
            case measure => have := hk.out; omega
            case rel => exact ⟨0 + 1, by omega, by go_num, Lib.hid rfl, Lib.hid (fun j hj => by
              rcases Nat.lt_succ_iff_lt_or_eq.mp hj with h | h
              · exact hn.out j h
              · rw [h]; exact HOK.out), hw⟩
        · have hb : okAt l i := ⟨by rw [hnn]; omega, by rw [hnn]; omega, fun h => by rw [hnn]; omega⟩
          clear hnn
          have HOK := Lib.hid hb
          clear hb
          go_wp2
          go_roundg (l.length - (i + 1))
          case measure => have := hk.out; omega
          case rel => exact ⟨i + 1, by omega, by go_num, Lib.hid rfl, Lib.hid (fun j hj => by
            rcases Nat.lt_succ_iff_lt_or_eq.mp hj with h | h
            · exact hn.out j h
            · rw [h]; exact HOK.out), hw⟩
      · have e : i = l.length := by omega
        subst e
        have hr : r = 0 := by
          rcases HC.out with h | h | h
          · exact absurd h.1 HN.out
          · exact h.2.2
          · exact absurd hn.out h.1
        have HR := Lib.hid hr
        clear hr
        go_wp2
        go_ret
        exact ⟨by rw [HR.out]; rfl, hw⟩

set_option maxHeartbeats 400000 in
theorem value_no (l : List Int) (a : Option Addr) (cap : Nat) (w : World) (hl : l.length ≤ maxLen) (hr : Reads w .i64 a l) (r : Int) (hc : Chk l r) (h0 : r ≠ 0) :
    Calls Try.prog 10 #[.slice a l.length cap] w (Says (.tuple #[.agg #[.int .i64 0, .int .i64 0], .int .i64 r]) w) := by
  have HX0 := Lib.hid ((Ex.refl w).alloc (.cells #[.int .i64 0, .int .i64 0] 23))
  have HT := Lib.hid (Two.new 23 w 0 0)
  have H := Lib.hid (terms_any l a cap _ hl (hr.ex HX0.out) r hc)
  have hb : (r != 0) = true := by simp [h0]
  clear hr hc h0
  go_enter Try.func10, Try.ntmps10
  go_wp2_with (
    (go_at_call 23; refine (H.out).mono ?_; rintro e w2 ⟨rfl, hw2⟩; have HT2 := Lib.hid (HT.out.ex hw2); have q0 := HT2.out.c0; have q1 := HT2.out.c1; have f0 := HT2.out.free 0; have f1 := HT2.out.free 1))
  (try simp only [Exit.inBlock, Exit.then])
  refine bodyPost_ret (res_two1 rfl _ _ _ _ _ _ rfl (HT2.out.set) Try.underlying23 (by kernel_rfl) _ rfl) rfl ?_
  exact ⟨rfl, (HX0.out.trans hw2).set2 (Nat.le_refl _) _ _⟩

/-- What Value hands back where nothing is wrong. -/
def vres : Option (Int × Int) → Value
  | none => .tuple #[.agg #[.int .i64 0, .int .i64 0], .int .i64 2]
  | some x => .tuple #[.agg #[.int .i64 x.1, .int .i64 x.2], .int .i64 0]

set_option maxHeartbeats 1000000 in
theorem value_ok (l : List Int) (a : Option Addr) (cap : Nat) (w : World) (hl : l.length ≤ maxLen) (hr : Reads w .i64 a l) (h0 : l ≠ []) (hc : OkT l) :
    Calls Try.prog 10 #[.slice a l.length cap] w (Says (vres (vr l)) w) := by
  have HX0 := Lib.hid ((Ex.refl w).alloc (.cells #[.int .i64 0, .int .i64 0] 23))
  have HT := Lib.hid (Two.new 23 w 0 0)
  have H := Lib.hid (terms_any l a cap _ hl (hr.ex HX0.out) 0 (.inr (.inl ⟨h0, hc, rfl⟩)))
  unfold maxLen at hl
  rcases hr with h | ⟨b, off, rfl, hcell⟩
  · exact absurd h h0
  have HC := Lib.hid hc
  have HCELL := Lib.hid hcell
  clear hcell hc h0
  go_enter Try.func10, Try.ntmps10
  go_wp2_with (
    (go_at_call 23; refine (H.out).mono ?_; rintro e w2 ⟨rfl, hw2⟩; have HT2 := Lib.hid (HT.out.ex hw2); have HX2 := Lib.hid (HX0.out.trans hw2); have HN2 := Lib.hid (Two.new 23 w2 1 0)))
  have hlt2 := HT2.out.lt
  go_loopg [6] l.length (fun k v6 wr => ∃ (i : Nat) (x y : Int), i ≤ l.length ∧ 0 ≤ x ∧ x ≤ 1000000 ∧ 0 ≤ y ∧ y ≤ 1000000 ∧ v6 = .int .i64 ((i : Int) - 1) ∧ Hid (vr (l.drop i) = some (x, y)) ∧ Hid (k = i) ∧ Hid (Two 23 wr w.heap.size 0 0) ∧ Hid (Two 23 wr w2.heap.size x y) ∧ Ex w wr)
  case atStart => exact ⟨l.length, 1, 0, Nat.le_refl _, by omega, by omega, by omega, by omega, rfl, Lib.hid (by simp [vr]), Lib.hid rfl, Lib.hid (HT2.out.ex ((Ex.refl _).alloc _)), HN2, HX2.out.alloc _⟩
  case round =>
    obtain ⟨i, x, y, hi, x0, x1, y0, y1, rfl, hV, hk, hA, hB, hw⟩ := hrel
    have HNE : Hid (w.heap.size ≠ w2.heap.size) := Lib.hid (by omega)
    have HLE : Hid (w.heap.size ≤ w2.heap.size) := Lib.hid (by omega)
    have hne1 : w.heap.size ≠ w2.heap.size := by omega
    have hne2 : w2.heap.size ≠ w.heap.size := by omega
    clear hlt2
    by_cases hi0 : 0 < i
    · obtain ⟨j, rfl⟩ : ∃ j, i = j + 1 := ⟨i - 1, by omega⟩
      have HJ : Hid (((j + 1 : Nat) : Int) - 1 = (j : Int)) := Lib.hid (by omega)
      rw [HJ.out]
      have hlt : j < l.length := by omega
      have hcx := hw.cell (HCELL.out j hlt)
      obtain ⟨o1, o2, _⟩ := HC.out j hlt
      have HD := Lib.hid (vr_drop hlt hV.out)
      have HGD : Hid (l.getD j 0 = nth l j) := Lib.hid rfl
      rw [HGD.out] at HD
      obtain ⟨t, ht⟩ : ∃ t, nth l j = t := ⟨_, rfl⟩
      rw [ht] at hcx o1 o2 HD
      clear ht
      have p0 : 0 ≤ t * x := Int.mul_nonneg o1 x0
      have p1 : t * x ≤ 1000000000000 := by
        have h1 : t * x ≤ 1000000 * x := Int.mul_le_mul_of_nonneg_right o2 x0
        omega
      have a0 := hA.out.c0
      have a1 := hA.out.c1
      have af0 := hA.out.free 0
      have af1 := hA.out.free 1
      have b0 := hB.out.c0
      have b1 := hB.out.c1
      have bf0 := hB.out.free 0
      have bf1 := hB.out.free 1
      have HB2 := Lib.hid (hB.out.set (u := t * x + y) (v := x))
      have HA2 := Lib.hid (hA.out.off2 (c := w2.heap.size) (u := .int .i64 (t * x + y)) (v := .int .i64 x) HNE.out.symm)
      have HX3 := Lib.hid (hw.set2 HLE.out (.int .i64 (t * x + y)) (.int .i64 x))
      by_cases hbig : 1000000 < t * x + y
      · have HR : Hid (vr l = none) := Lib.hid (HD.out.1 hbig)
        go_wp2
        go_region
        go_wp2
        (try simp only [Exit.inBlock, Exit.then])
        refine bodyPost_ret (res_two1 rfl _ _ _ _ _ _ rfl ((HA2.out.ex ((Ex.refl _).drew)).set) Try.underlying23 (by kernel_rfl) _ rfl) rfl ?_
        exact ⟨by rw [HR.out]; rfl, (HX3.out.drew).set2 (Nat.le_refl _) _ _⟩
      · have HR := Lib.hid (HD.out.2 (by omega))
        go_wp2
        go_region
        go_wp2
        go_roundg j
        case measure => have := hk.out; omega
        case rel => exact ⟨j, t * x + y, x, by omega, by omega, by omega, x0, x1, rfl, HR, Lib.hid rfl, Lib.hid (HA2.out.ex ((Ex.refl _).drew)), Lib.hid (HB2.out.ex ((Ex.refl _).drew)), HX3.out.drew⟩
    · obtain rfl : i = 0 := by omega
      have a0 := hA.out.c0
      have a1 := hA.out.c1
      have af0 := hA.out.free 0
      have af1 := hA.out.free 1
      have b0 := hB.out.c0
      have b1 := hB.out.c1
      have HR : Hid (vr l = some (x, y)) := Lib.hid (by simpa using hV.out)
      go_wp2
      (try simp only [Exit.inBlock, Exit.then])
      refine bodyPost_ret (res_two1 rfl _ _ _ _ _ _ rfl (hA.out.set) Try.underlying23 (by kernel_rfl) _ rfl) rfl ?_
      exact ⟨by rw [HR.out]; rfl, hw.set2 (Nat.le_refl _) _ _⟩

end Go.Proofs.Ytbomiohgdlcmdaa
