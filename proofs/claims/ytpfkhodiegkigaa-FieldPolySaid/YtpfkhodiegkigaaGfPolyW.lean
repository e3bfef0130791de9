/-
  FieldPoly, walked.
-/
import Derived.Test.YtpfkhodiegkigaaGfLaws
import Derived.Test.YtpfkhodiegkigaaGfBits
import Derived.Test.YtpfkhodiegkigaaGpb
namespace Go.Proofs.Ytpfkhodiegkigaa
open Go.RowKit
open Pr Po Gf

theorem bx_snoc (n x : Nat) : bx n x ++ [((bi x n : Nat) : Int)] = bx (n + 1) x := by
  unfold bx
  rw [List.range_succ, List.map_append]
  rfl

set_option maxRecDepth 100000 in
set_option maxHeartbeats 2000000 in
theorem polyOfByte_any (x : Nat) (w : World) (hx9 : x < 512) : Calls Try.prog 19 #[.int .i64 (x : Int)] w (Row1 (bp x) w) := by
  have HSH : Hid (∀ (w2 : World) (ad : Option Addr) (cp : Nat), Row 3 .i64 w2 w.heap.size (.slice ad 9 cp) (bx 9 x) → Calls Try.prog 20 #[.slice ad 9 cp] w2 (Row1 (bp x) w2)) := Lib.hid fun w2 ad cp hrow => by
    have hlen := bx_length 9 x
    have hcp : 9 ≤ cp ∧ cp ≤ 9223372036854775807 ∧ (ad = none → cp = 0) := by
      rcases hrow.form with ⟨f1, f2⟩ | ⟨bo, cp2, f1, _, _, fc1, fc2, _, _⟩
      · rw [f2] at hlen
        cases hlen
      · simp only [Value.slice.injEq] at f1
        unfold maxLen at fc2
        exact ⟨by omega, by omega, fun h => by rw [f1.1] at h; cases h⟩
    have := refShort_any (bx 9 x) ad cp w2 (by omega) hrow.read hcp.2.2 (by omega) hcp.2.1
    rw [hlen] at this
    exact this
  have HLEN := Lib.hid fun i => bx_length i x
  have HSN := Lib.hid fun i => bx_snoc i x
  go_enter Try.func19, Try.ntmps19
  go_wp2
  go_loopg [3, 5] 9 (fun k v3 v5 wx => ∃ (i : Nat) (ad : Option Addr) (cp : Nat), i ≤ 9 ∧ v3 = .slice ad i cp ∧ v5 = .int .i64 i ∧ Hid (Row 3 .i64 wx w.heap.size (.slice ad i cp) (bx i x)) ∧ Hid (k = 9 - i) ∧ Ex w wx)
  case atStart => exact ⟨0, none, 0, by omega, rfl, rfl, Lib.hid (Row.nil _ _ _ _), Lib.hid rfl, Ex.refl _⟩
  case round =>
    obtain ⟨i, ad, cp, hi, rfl, rfl, hR, hk, hx⟩ := hrel
    by_cases hlt : i < 9
    · have HB := bi_i64 x i (by omega)
      obtain ⟨B, hB⟩ : ∃ B, bi x i = B := ⟨_, rfl⟩
      have B2 : B < 2 := by rw [← hB]; exact bi_lt x i
      have HS := HSN.out i
      rw [hB] at HB HS
      have HST2 := Lib.hid HS
      have c1 := cell_fresh wr (.int .i64 (B : Int)) 3
      have HX := Lib.hid (hx.alloc (.cells #[.int .i64 (B : Int)] 3))
      have HRA := Lib.hid (hR.out.ex ((Ex.refl wr).alloc (.cells #[.int .i64 (B : Int)] 3)))
      have hle := HLEN.out i
      have HLE := Lib.hid hle
      clear hB hle HS
      go_wp2_with (first
        | (at_builtin; refine wpList_append_int rfl _ _ 38 rfl w.heap.size 3 .i64 8 Try.underlying38 info_int _ (bx i x) rfl HRA.out (B : Int) wr.heap.size rfl c1 (by rw [HLE.out]; unfold maxLen; omega) (by rw [HLE.out]; omega) HX.out.size ?_; intro v1 w3 hown3 hgrow3 hat3
           have HX3 := Lib.hid (HRA.out.grown HX.out hgrow3)
           rw [HST2.out] at hown3
           obtain ⟨ad3, cp3, rfl, _, _, _⟩ := hown3.reads
           rw [HLEN.out (i + 1)] at hown3 ⊢
           have HR3 := Lib.hid hown3
           clear hown3 hgrow3 hat3 c1))
      go_roundg (9 - (i + 1))
      case measure => have := hk.out; omega
      case rel => exact ⟨i + 1, ad3, cp3, by omega, rfl, by go_num, HR3, Lib.hid rfl, HX3.out⟩
    · have e : i = 9 := by omega
      subst e
      have HT := Lib.hid (HSH.out wr ad cp hR.out)
      go_wp2_with (go_at_call 20; (with_reducible refine (HT.out).mono ?_); rintro e w5 ⟨u, rfl, hu, hw5⟩)
      go_ret
      exact ⟨_, rfl, Lib.hid (hu.out.less hx.size), hx.trans hw5⟩

set_option maxRecDepth 100000 in
set_option maxHeartbeats 2000000 in
theorem fieldPoly_walk (a b : Int) (w : World) (ha0 : 0 ≤ a ∧ a ≤ 255) (hb0 : 0 ≤ b ∧ b ≤ 255) : Calls Try.prog 8 #[.int .u8 a, .int .u8 b] w (Says (.bool true) w) := by
  obtain ⟨a, ha, rfl⟩ := byte_of ha0
  obtain ⟨b, hb, rfl⟩ := byte_of hb0
  have hp : Prm 2 := (pb_iff 2).mp (by decide)
  have hg := gm_lt (b := b) ha
  obtain ⟨G, hG⟩ : ∃ G, gm a b = G := ⟨_, rfl⟩
  obtain ⟨LA, hLA⟩ : ∃ L, (bp a).length = L := ⟨_, rfl⟩
  obtain ⟨LB, hLB⟩ : ∃ L, (bp b).length = L := ⟨_, rfl⟩
  obtain ⟨LG, hLG⟩ : ∃ L, (bp G).length = L := ⟨_, rfl⟩
  have la := bp_length ha
  have lb := bp_length hb
  have lg := bp_length hg
  rw [hG] at hg lg
  rw [hLA] at la
  rw [hLB] at lb
  rw [hLG] at lg
  obtain ⟨H, N, e1, n1, m1, k1, _, _, hM⟩ := mulL hp (by omega) (bp_can a) (bp_can b) hLA hLB (by omega)
  have cf : Po.Can 2 f11d := ⟨by decide, by decide⟩
  obtain ⟨Q, R, A, K, hD, l1, l2, _, _, hDv⟩ := divL hp (by omega) k1 cf n1 (M := 9) rfl (by omega) (by omega)
  have hR : R = bp G := by
    rw [← hG]
    exact bp_rest ha hb (by rw [← e1]; exact cg_red 2 _) hD
  rw [hR] at l2 hDv
  obtain rfl : LG = K := hLG.symm.trans l2
  have HF := Lib.hid fields_yes
  have O1 : Hid (∀ w, Calls Try.prog 19 #[.int .i64 (a : Int)] w (Slc1 (bp a) LA w)) := Lib.hid fun w => (polyOfByte_any a w (by omega)).mono fun e w2 k => Row1.slc k hLA
  have O2 : Hid (∀ w, Calls Try.prog 19 #[.int .i64 (b : Int)] w (Slc1 (bp b) LB w)) := Lib.hid fun w => (polyOfByte_any b w (by omega)).mono fun e w2 k => Row1.slc k hLB
  have O3 : Hid (∀ w, Calls Try.prog 19 #[.int .i64 285] w (Slc1 f11d 9 w)) := Lib.hid fun w => by
    have := polyOfByte_any 285 w (by decide)
    rw [bp_11d] at this
    exact this.mono fun e w2 k => Row1.slc k rfl
  have O4 : Hid (∀ w, Calls Try.prog 19 #[.int .i64 (G : Int)] w (Slc1 (bp G) LG w)) := Lib.hid fun w => (polyOfByte_any G w (by omega)).mono fun e w2 k => Row1.slc k hLG
  have HM := Lib.hid hM
  have HD := Lib.hid hDv
  have M1 := mulH a b G ha hb hG
  have HE : Hid (∀ (w : World) (a b : Option Addr) (ca cb : Nat), Reads w .i64 a (bp G) → Reads w .i64 b (bp G) → Calls Try.prog 23 #[.slice a LG ca, .slice b LG cb] w (Says (.bool true) w)) := Lib.hid (eqS hLG (by omega))
  have TA := Lib.hid True.intro
  have TB := Lib.hid True.intro
  clear hG hLA hLB hLG e1 n1 m1 k1 hM cf hD l1 l2 hDv hR hp
  go_enter Try.func8, Try.ntmps8
  go_wp2_with (first
    | (go_at_call 16; (with_reducible refine (HF.out _).mono ?_); rintro e w0 ⟨rfl, hw0⟩)
    | (go_at_call 19; clear TA; (with_reducible refine (O1.out _).mono ?_); rintro e w1 ⟨b1, d1, rfl, hr1, hn1, hw1⟩)
    | (go_at_call 19; clear TB; (with_reducible refine (O2.out _).mono ?_); rintro e w2 ⟨b2, d2, rfl, hr2, hn2, hw2⟩)
    | (go_at_call 21; (with_reducible refine (HM.out _ _ _ _ _ (hr1.out.ex (by repeat (first | assumption | exact Ex.refl _ | refine Ex.trans ?_ (by assumption)))) hr2.out).mono ?_); rintro e w3 ⟨b3, d3, rfl, hr3, hn3, hw3⟩)
    | (go_at_call 19; (with_reducible refine (O3.out _).mono ?_); rintro e w4 ⟨b4, d4, rfl, hr4, hn4, hw4⟩)
    | (go_at_call 22; (with_reducible refine (HD.out _ _ _ _ _ (hr3.out.ex (by repeat (first | assumption | exact Ex.refl _ | refine Ex.trans ?_ (by assumption)))) hn3.out hr4.out).mono ?_); rintro e w5 ⟨b5, d5, b6, d6, rfl, hr5, hn5, hr6, hn6, hw5⟩)
    | (go_at_call 18; refine (good_zeros 2 (by omega) _ rfl _ _).mono ?_; rintro e w7 ⟨rfl, hw7⟩)
    | (go_at_call 12; (with_reducible refine (M1.out _).mono ?_); rintro e w8 ⟨rfl, hw8⟩)
    | (go_at_call 19; (with_reducible refine (O4.out _).mono ?_); rintro e w9 ⟨b9, d9, rfl, hr9, hn9, hw9⟩)
    | (go_at_call 23; (with_reducible refine (HE.out _ _ _ _ _ (hr6.out.ex (by repeat (first | assumption | exact Ex.refl _ | refine Ex.trans ?_ (by assumption)))) hr9.out).mono ?_); rintro e w10 ⟨rfl, hw10⟩))
  go_ret
  exact ⟨rfl, (by repeat (first | assumption | exact Ex.refl _ | refine Ex.trans ?_ (by assumption)))⟩

end Go.Proofs.Ytpfkhodiegkigaa
