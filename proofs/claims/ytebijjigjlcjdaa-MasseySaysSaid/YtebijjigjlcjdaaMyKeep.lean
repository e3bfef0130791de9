/-
  wholekeep.tape, masseys; MasseyMakes, MasseyGrows, by contracts.
-/
import Derived.Test.YtebijjigjlcjdaaMyD
import Derived.Test.YtebijjigjlcjdaaGnu
import Derived.Test.YtebijjigjlcjdaaGro
import Derived.Deep.CutRange
import Derived.Deep.DeepCutAuto
namespace Go.Proofs.Ytebijjigjlcjdaa
open Go.RowKit
open My

namespace My
/-- A byte's last bit. -/
def tb (z : List Int) (t : Nat) : Bool := decide (nth z t % 2 = 1)
theorem tb_bw (z : List Int) (t : Nat) : nth z t % 2 = bw (tb z t) := by
  unfold tb
  rcases Int.emod_two_eq (nth z t) with e | e <;> rw [e] <;> rfl
theorem fl_more (i : Nat) (F : Nat → Int) : Go.Proofs.Ytebijjigjlcjdaa.fl i F ++ [F i] = Go.Proofs.Ytebijjigjlcjdaa.fl (i + 1) F := by
  unfold Go.Proofs.Ytebijjigjlcjdaa.fl
  rw [List.range_succ, List.map_append]
  rfl
end My

theorem info_byt : (Try.prog.info? 5).map (fun i => (i.zero, i.size, i.bytes)) = some (some (.int .u8 0), 1, 1) := by kernel_rfl

/-- Bits of one's own. -/
def TapeOf (n : Nat) (B : Nat → Bool) (w : World) (e : Ending) (w2 : World) : Prop := ∃ v, e = .returned v ∧ Hid (Row 5 .u8 w2 w.heap.size v (fl n fun t => bw (B t))) ∧ Ex w w2

set_option maxHeartbeats 2000000 in
theorem tape_any (z : List Int) (a : Option Addr) (la ca N : Nat) (w : World) (ha : IsInts .u8 1 w a la ca z) (hN : N = min la 60) : Calls Try.prog 15 #[.slice a la ca] w (TapeOf N (tb z) w) := by
  obtain ⟨h1, h2, h3, h4, h5, h6⟩ := ha
  have HZ : Hid (∀ i, i < N → ∃ g o, a = some ⟨g, o, none⟩ ∧ w.cell? ⟨g, o + i, none⟩ = some (.int .u8 (nth z i)) ∧ 0 ≤ nth z i ∧ nth z i ≤ 255) := Lib.hid fun i hi => by
    have hb := wf_u8 (h6 _ (nth_mem (show i < z.length by omega)))
    rcases h4 with h | ⟨g, o, h7, h8⟩
    · rw [h] at h1; exact absurd hi (by have : la = 0 := h1.symm; omega)
    · exact ⟨g, o, h7, h8 i (by omega), hb.1, hb.2⟩
  have hNl : N ≤ 60 := by omega
  have hNla : N ≤ la := by omega
  have hcase : (la ≤ 60 ∧ (la : Int) = (N : Int)) ∨ (60 < la ∧ (N : Int) = 60) := by omega
  have hla : la ≤ 140737488351232 := by omega
  clear h1 h4 h5 h6 hN
  rcases hcase with ⟨q1, q2⟩ | ⟨q1, q2⟩
  all_goals
    go_enter Try.func15, Try.ntmps15
    go_wp2
    go_loopg [3, 12] N (fun k v3 v12 wr => ∃ (i : Nat) (v : Value), i ≤ N ∧ v3 = v ∧ v12 = .int .i64 (i : Int) ∧ Hid (Row 5 .u8 wr w.heap.size v (fl i fun t => bw (tb z t))) ∧ Hid (k = N - i) ∧ Ex w wr)
    case atStart => exact ⟨0, _, by omega, rfl, rfl, Lib.hid (Row.nil _ _ _ _), Lib.hid rfl, Ex.refl _⟩
    case round =>
      obtain ⟨i, v, hi, rfl, rfl, hRow, hk, hx⟩ := hrel
      by_cases hlt : i < N
      · obtain ⟨g, o, rfl, hc, b0, b1⟩ := HZ.out i hlt
        have q3 := hx.cell hc
        have hm := tb_bw z i
        have HM := Lib.hid (fl_more i fun t => bw (tb z t))
        obtain ⟨x, hxx⟩ : ∃ x, nth z i = x := ⟨_, rfl⟩
        obtain ⟨y, hy⟩ : ∃ y, bw (tb z i) = y := ⟨_, rfl⟩
        rw [hxx] at q3 hm b0 b1
        rw [hy] at hm HM
        have c1 := box_one wr (.int .u8 y) 5
        have HXw := Lib.hid (hx.alloc (.cells #[.int .u8 y] 5))
        have HRA := Lib.hid (hRow.out.ex ((Ex.refl wr).alloc (.cells #[.int .u8 y] 5)))
        have hll := fl_length i fun t => bw (tb z t)
        clear hc hxx hy
        go_wp2_with (at_builtin; refine wpList_append_int rfl _ _ 22 rfl w.heap.size 5 .u8 1 Try.underlying22 info_byt _ (fl i fun t => bw (tb z t)) rfl HRA.out y wr.heap.size rfl c1 (by unfold maxLen; omega) (by omega) HXw.out.size ?_
                     intro v1 w4 hown4 hgrow4 hat4
                     have HX4 := Lib.hid (HRA.out.grown HXw.out hgrow4)
                     rw [HM.out] at hown4
                     have HR4 := Lib.hid hown4
                     clear hown4 hgrow4 hat4 c1)
        go_roundg (N - (i + 1))
        case measure => have := hk.out; omega
        case rel => exact ⟨i + 1, _, by omega, rfl, by go_num, HR4, Lib.hid rfl, HX4.out⟩
      · have e : N = i := by omega
        subst e
        go_wp2
        go_ret
        exact ⟨_, rfl, hRow, hx⟩

namespace My
/-- 0, 1, 1, 0, 1, 1 -/
def s011 (i : Nat) : Bool := decide (i % 3 ≠ 0)
theorem rule_011 {M : Nat} {R : Nat → Bool} (hG : Gen s011 R M 6) (hmin : ∀ N q, Gen s011 q N 6 → M ≤ N) : M = 2 ∧ R 0 = true ∧ R 1 = true := by
  have h2 : Gen s011 (fun _ => true) 2 6 := fun i h1 h2 => by
    rcases (show i = 2 ∨ i = 3 ∨ i = 4 ∨ i = 5 by omega) with rfl | rfl | rfl | rfl <;> rfl
  have hM := hmin 2 _ h2
  have h0 : M ≠ 0 := fun e => by
    subst e
    have := hG 1 (by omega) (by omega)
    cases this
  have h1 : M ≠ 1 := fun e => by
    subst e
    have := hG 1 (by omega) (by omega)
    revert this
    unfold nx
    rw [xs, xs]
    cases R 0 <;> decide
  have e : M = 2 := by omega
  subst e
  have h3 := massey_one hG h2 (by omega) hmin
  exact ⟨rfl, h3 0 (by omega), h3 1 (by omega)⟩
def b11 : Nat → Bool := fun _ => true
def b01 : Nat → Bool := fun i => decide (i = 1)
end My
theorem lit_11 (w : World) (T : TypeId) (g : Nat) (hg : g = w.heap.size) : ReadsB (w.alloc (.cells #[.int .u8 1, .int .u8 1] T)) (some ⟨g, 0, none⟩) 2 b11 := by
  refine .inr ⟨g, 0, rfl, fun k hk => ?_⟩
  rw [Nat.zero_add, hg, World.cell?_alloc_new]
  rcases (show k = 0 ∨ k = 1 by omega) with rfl | rfl <;> rfl
theorem lit_01 (w : World) (T : TypeId) (g : Nat) (hg : g = w.heap.size) : ReadsB (w.alloc (.cells #[.int .u8 0, .int .u8 1] T)) (some ⟨g, 0, none⟩) 2 b01 := by
  refine .inr ⟨g, 0, rfl, fun k hk => ?_⟩
  rw [Nat.zero_add, hg, World.cell?_alloc_new]
  rcases (show k = 0 ∨ k = 1 by omega) with rfl | rfl <;> rfl
theorem lit_011 (w : World) (T : TypeId) : ReadsB (w.alloc (.cells #[.int .u8 0, .int .u8 1, .int .u8 1, .int .u8 0, .int .u8 1, .int .u8 1] T)) (some ⟨w.heap.size, 0, none⟩) 6 s011 := by
  refine .inr ⟨w.heap.size, 0, rfl, fun k hk => ?_⟩
  rw [Nat.zero_add, World.cell?_alloc_new]
  rcases (show k = 0 ∨ k = 1 ∨ k = 2 ∨ k = 3 ∨ k = 4 ∨ k = 5 by omega) with rfl | rfl | rfl | rfl | rfl | rfl <;> rfl

/-- Two rows of bits, compared. -/
theorem equal_bits {n : Nat} {B C : Nat → Bool} {a b : Option Addr} {ca cb : Nat} {w : World} (hn : n ≤ 1000) (h1 : ReadsB w a n B) (h2 : ReadsB w b n C) (he : ∀ i, i < n → B i = C i) : Calls Try.prog 17 #[.slice a n ca, .slice b n cb] w (Says (.bool true) w) := by
  have hl := fl_length n fun t => bw (B t)
  have e : (fl n fun t => bw (B t)) = fl n fun t => bw (C t) := fl_congr fun t ht => by rw [he t ht]
  have hc := h2.reads
  rw [← e] at hc
  have := bytes_equal _ _ a b ca cb w (by rw [hl]; unfold maxLen; omega) (by rw [hl]; unfold maxLen; omega) h1.reads hc true (by simp)
  rwa [hl] at this

set_option maxRecDepth 100000 in
set_option maxHeartbeats 1000000 in
theorem masseys_yes (HR : MyRuleC) (HN : MyNextC) (w : World) : Calls Try.prog 14 #[] w (Says (.bool true) w) := by
  have HRU : Hid (Calls Try.prog 8 #[.slice (some ⟨w.heap.size, 0, none⟩) 6 6] (w.alloc (.cells #[.int .u8 0, .int .u8 1, .int .u8 1, .int .u8 0, .int .u8 1, .int .u8 1] 5)) (RuleOf s011 6 (w.alloc (.cells #[.int .u8 0, .int .u8 1, .int .u8 1, .int .u8 0, .int .u8 1, .int .u8 1] 5)))) := Lib.hid (HR.ok (by omega) (by omega) (by omega) (lit_011 w _))
  have HNX : Hid (∀ w a b, ReadsB w a 2 b01 → ReadsB w b 2 b11 → Calls Try.prog 7 #[.slice a 2 2, .slice b 2 2] w (Says (.tuple #[.int .u8 1, .int .i64 0]) w)) := Lib.hid fun w a b h1 h2 => HN.ok (by omega) (by omega) (by omega) (by omega) (by omega) (by omega) h1 h2
  have HEQ := Lib.hid fun a2 c2 a3 c3 w2 (h1 : ReadsB w2 a2 2 b11) (h2 : ReadsB w2 a3 2 b11) => equal_bits (ca := c2) (cb := c3) (by omega) h1 h2 (fun _ _ => rfl)
  have HX0 := Lib.hid ((Ex.refl w).alloc (.cells #[.int .u8 0, .int .u8 1, .int .u8 1, .int .u8 0, .int .u8 1, .int .u8 1] 5))
  clear HR HN
  go_enter Try.func14, Try.ntmps14
  go_upto_region 2 with (go_at_call 8; (with_reducible refine (HRU.out).mono ?_); rintro e w1 ⟨M, R, a1, c1, rfl, hc1, hR1, hG1, hm1, hw1⟩)
  obtain ⟨rfl, r0, r1⟩ := rule_011 hG1.out hm1.out
  have HR1 : Hid (ReadsB w1 a1 2 b11) := Lib.hid (hR1.out.congr fun i hi => by
    rcases (show i = 0 ∨ i = 1 by omega) with rfl | rfl
    · rw [r0]; rfl
    · rw [r1]; rfl)
  have HX1 := Lib.hid (HX0.out.trans hw1)
  clear hR1 hG1 hm1 r0 r1 hw1
  go_upto_region 3 with (go_at_call 7; (with_reducible refine (HNX.out _ _ _ (by first | exact lit_01 _ _ _ (by simp) | exact (lit_01 _ _ _ (by simp)).ex ((Ex.refl _).alloc _)) (by first | exact lit_11 _ _ _ (by simp) | exact (lit_11 _ _ _ (by simp)).ex ((Ex.refl _).alloc _))).mono ?_); rintro e w2 ⟨rfl, hw2⟩)
  have hx2 : Ex w1 w2 := (((Ex.refl w1).alloc _).alloc _).trans hw2
  have HX2 := Lib.hid (HX1.out.trans hx2)
  have HR2 := Lib.hid ((HR1.out.ex hx2).ex ((Ex.refl w2).alloc (.cells #[.int .u8 1, .int .u8 1] 5)))
  have HL2 := Lib.hid (lit_11 w2 5 _ rfl)
  go_wp2_with (go_at_call 17; (with_reducible refine (HEQ.out _ _ _ _ _ HR2.out HL2.out).mono ?_); rintro e w4 ⟨rfl, hw4⟩)
  go_ret
  exact ⟨rfl, (HX2.out.trans ((Ex.refl w2).alloc _)).trans hw4⟩

end Go.Proofs.Ytebijjigjlcjdaa
