/-
  CyclicBack, CyclicBurst, CyclicSums, CyclicOdd, by contracts.
-/
import Derived.Test.YtlpnopliblaknaaCyP
import Derived.Test.YtlpnopliblaknaaGnu
import Derived.Test.YtlpnopliblaknaaAns
namespace Go.Proofs.Ytlpnopliblaknaa
open Go.RowKit
open Ln Cy

theorem fb_le (z : List Int) (m : Nat) : (fb z m).length ≤ m := by rw [fb_length]; omega
theorem txl_eq (l : List Bool) : ((tx l).toList == (tx l).toList) = true := by simp

set_option maxRecDepth 100000 in
set_option maxHeartbeats 1000000 in
theorem cyclicBack_of (HP : CyPutC) (HG : CyGetC) (a : Option Addr) (la ca : Nat) (z : List Int) (b : Option Addr) (lb cb : Nat) (y : List Int) (w : World) (ha : IsInts .u8 1 w a la ca z) (hb : IsInts .u8 1 w b lb cb y) :
    Calls Try.prog 3 #[.slice a la ca, .slice b lb cb] w (Says (.bool true) w) := by
  have HY := Lib.hid fun w => cyclics_yes HP w
  have HBI : Hid (∀ w2, Ex w w2 → Calls Try.prog 8 #[.slice a la ca, .int .i64 200] w2 (Says (.string (tx (fb z 200))) w2)) := Lib.hid fun w2 (k : Ex w w2) => bitsOf_any 200 (ha.ex k) (by omega)
  have HBY := Lib.hid fun w2 (k : Ex w w2) => byOf_any (hb.ex k)
  have hB := byl_by y
  have hSl := fb_le z 200
  obtain ⟨S, hS⟩ : ∃ S, fb z 200 = S := ⟨_, rfl⟩
  obtain ⟨B, hBB⟩ : ∃ B, byl y = B := ⟨_, rfl⟩
  rw [hS] at HBI hSl
  rw [hBB] at HBY hB
  have hdeg := hB.deg
  have hcl := chk_length B S
  have hnone := hB.none S
  have hPl : (S ++ chk B S).length = S.length + dg' B := by rw [List.length_append, hcl]
  have HPU := Lib.hid fun w => HP.ok (w := w) hSl hB
  have hg := fun w => HG.ok (l := S ++ chk B S) (w := w) (by omega) hB (by omega) hnone
  have htk : (S ++ chk B S).take ((S ++ chk B S).length - dg' B) = S := by
    rw [hPl, Nat.add_sub_cancel, List.take_left]
  rw [htk] at hg
  have HGE := Lib.hid hg
  have HPR := Lib.hid fun w => strPrefix_tx (S ++ chk B S) S w true (decide_eq_true (by rw [List.take_left]))
  have s1 := tx_size (S ++ chk B S)
  have s2 := tx_size S
  have s3 := tx_size B
  obtain ⟨P, hP⟩ : ∃ P, S ++ chk B S = P := ⟨_, rfl⟩
  rw [hP] at HPU HGE HPR s1 hPl
  have hlo := hB.lo
  have hhi := hB.hi
  have hd : dg' B = B.length - 1 := rfl
  obtain ⟨n1, e1⟩ : ∃ n, P.length = n := ⟨_, rfl⟩
  obtain ⟨n2, e2⟩ : ∃ n, S.length = n := ⟨_, rfl⟩
  obtain ⟨n3, e3⟩ : ∃ n, B.length = n := ⟨_, rfl⟩
  rw [e1] at s1 hPl
  rw [e2] at s2 hPl hSl
  rw [e3] at s3 hlo hhi hd
  have g1 : ((n1 : Int) == (n2 : Int) + (n3 : Int) - 1) = true := beq_iff_eq.mpr (by omega)
  have g2 := txl_eq S
  have HGZ := Lib.hid (good_zeros 2 (by omega) #[.int .i64 0, .int .i64 0] rfl 26)
  clear hg htk hP hB HP HG ha hb hS hBB hcl hnone e1 e2 e3
  go_enter Try.func3, Try.ntmps3
  go_wp2_with (first
    | (go_at_call 7; (with_reducible refine (HY.out _).mono ?_); rintro e w1 ⟨rfl, hw1⟩)
    | (go_at_call 8; (with_reducible refine (HBI.out _ hw1).mono ?_); rintro e w2 ⟨rfl, hw2⟩
       have hx2 := hw1.trans hw2)
    | (go_at_call 9; (with_reducible refine (HBY.out _ hx2).mono ?_); rintro e w3 ⟨rfl, hw3⟩
       have hx3 := hx2.trans hw3)
    | (go_at_call 10; (with_reducible refine (HPU.out _).mono ?_); rintro e w4 ⟨rfl, hw4⟩)
    | (go_at_call 11; (with_reducible refine (HGE.out _).mono ?_); rintro e w5 ⟨rfl, hw5⟩)
    | (go_at_call 12; (refine (HGZ.out _).mono ?_); rintro e w6 ⟨rfl, hw6⟩)
    | (go_at_call 13; (with_reducible refine (HPR.out _).mono ?_); rintro e w7 ⟨rfl, hw7⟩))
  go_ret
  exact ⟨rfl, ((((hx3.trans hw4).trans hw5).trans hw6).trans hw7)⟩

set_option maxRecDepth 100000 in
set_option maxHeartbeats 1000000 in
theorem cyclicBurst_of (HP : CyPutC) (HG : CyGetC) (a : Option Addr) (la ca : Nat) (z : List Int) (b : Option Addr) (lb cb : Nat) (y : List Int) (c : Option Addr) (lc cc : Nat) (x : List Int) (at' : Int) (w : World) (ha : IsInts .u8 1 w a la ca z) (hb : IsInts .u8 1 w b lb cb y) (hc : IsInts .u8 1 w c lc cc x) (_ : I64 at') :
    Calls Try.prog 4 #[.slice a la ca, .slice b lb cb, .slice c lc cc, .int .i64 at'] w (Says (.bool true) w) := by
  have HY := Lib.hid fun w => cyclics_yes HP w
  have HBI : Hid (∀ w2, Ex w w2 → Calls Try.prog 8 #[.slice a la ca, .int .i64 200] w2 (Says (.string (tx (fb z 200))) w2)) := Lib.hid fun w2 (k : Ex w w2) => bitsOf_any 200 (ha.ex k) (by omega)
  have HBY := Lib.hid fun w2 (k : Ex w w2) => byOf_any (hb.ex k)
  have hB := byl_by y
  have hSl := fb_le z 200
  obtain ⟨S, hS⟩ : ∃ S, fb z 200 = S := ⟨_, rfl⟩
  obtain ⟨B, hBB⟩ : ∃ B, byl y = B := ⟨_, rfl⟩
  rw [hS] at HBI hSl
  rw [hBB] at HBY hB
  have hdeg := hB.deg
  have hcl := chk_length B S
  have hnone := hB.none S
  have hPl : (S ++ chk B S).length = S.length + dg' B := by rw [List.length_append, hcl]
  have HPU := Lib.hid fun w => HP.ok (w := w) hSl hB
  obtain ⟨P, hP⟩ : ∃ P, S ++ chk B S = P := ⟨_, rfl⟩
  rw [hP] at HPU hPl hnone
  have s3 := tx_size B
  have hlo := hB.lo
  have hhi := hB.hi
  obtain ⟨d, hd⟩ : ∃ d, dg' B = d := ⟨_, rfl⟩
  have hd2 : B.length = d + 1 := by rw [← hd]; unfold dg'; omega
  rw [hd] at hdeg hPl
  rw [hd2] at s3
  have HB2 := Lib.hid fun w2 (k : Ex w w2) => bitsOf_any d (hc.ex k) (by omega)
  have hEl := fb_le x d
  obtain ⟨E, hE⟩ : ∃ E, fb x d = E := ⟨_, rfl⟩
  rw [hE] at HB2 hEl
  have s1 := tx_size P
  have s2 := tx_size E
  obtain ⟨n1, e1⟩ : ∃ n, P.length = n := ⟨_, rfl⟩
  obtain ⟨n2, e2⟩ : ∃ n, E.length = n := ⟨_, rfl⟩
  have hn : n2 ≤ n1 := by omega
  have hn216 : n1 ≤ 216 := by omega
  obtain ⟨T, hT⟩ : ∃ T : Nat, at' % ((n1 : Int) - (n2 : Int) + 1) = (T : Int) := ⟨(at' % ((n1 : Int) - (n2 : Int) + 1)).toNat, by have := Int.emod_nonneg at' (b := (n1 : Int) - (n2 : Int) + 1) (by omega); omega⟩
  have hT2 : T + n2 ≤ n1 := by have := Int.emod_lt_of_pos at' (show (0 : Int) < (n1 : Int) - (n2 : Int) + 1 by omega); omega
  have HW : Hid (∀ w, Calls Try.prog 16 #[.int .i64 at', .int .i64 ((n1 : Int) - (n2 : Int) + 1)] w (fun e w' => e = .returned (.int .i64 (T : Int)) ∧ w = w')) := Lib.hid fun w => by
    have := within_any at' ((n1 : Int) - (n2 : Int) + 1) w (by omega) (by omega)
    rwa [hT] at this
  have HTU := Lib.hid fun w => turn_any (l := P) (b := E) (A := T) (w := w) (by omega) (by omega)
  have HSU : Hid (true ∈ E → ∀ w, Calls Try.prog 11 #[.string (tx (tn P E T)), .string (tx B)] w (Says (.tuple #[.string (ByteArray.mk #[]), .int .i64 8]) w)) := Lib.hid fun h1 w => by
    have hln := tn_length P E T
    exact HG.sum (by omega) hB (by omega) (lf_burst hB hnone (by omega) (by omega) h1)
  obtain ⟨Q, hQ⟩ : ∃ Q, tn P E T = Q := ⟨_, rfl⟩
  rw [hQ] at HTU HSU
  have HCO := Lib.hid fun w r hr => contains_tx E w (by omega) r hr
  rw [e1] at s1
  rw [e2] at s2
  have g1 : decide ((n1 : Int) < (n2 : Int)) = false := decide_eq_false (by omega)
  clear hP hB HP HG ha hb hc hS hBB hcl hnone hE hQ hT hd hd2 hPl
  by_cases hin : true ∈ E
  · have HSU2 := Lib.hid (HSU.out hin)
    have HC2 := Lib.hid fun w => HCO.out w true (decide_eq_true hin)
    clear HSU HCO hin
    go_enter Try.func4, Try.ntmps4
    go_wp2_with (first
      | (go_at_call 7; (with_reducible refine (HY.out _).mono ?_); rintro e w1 ⟨rfl, hw1⟩)
      | (go_at_call 8; (with_reducible refine (HBI.out _ hw1).mono ?_); rintro e w2 ⟨rfl, hw2⟩
         have hx2 := hw1.trans hw2
         clear HBI)
      | (go_at_call 9; (with_reducible refine (HBY.out _ hx2).mono ?_); rintro e w3 ⟨rfl, hw3⟩
         have hx3 := hx2.trans hw3)
      | (go_at_call 10; (with_reducible refine (HPU.out _).mono ?_); rintro e w4 ⟨rfl, hw4⟩
         have hx4 := hx3.trans hw4)
      | (go_at_call 8; (with_reducible refine (HB2.out _ hx4).mono ?_); rintro e w5 ⟨rfl, hw5⟩)
      | (go_at_call 14; (with_reducible refine (HC2.out _).mono ?_); rintro e w6 ⟨rfl, hw6⟩)
      | (go_at_call 16; (with_reducible refine (HW.out _).mono ?_); rintro e w7 ⟨rfl, rfl⟩)
      | (go_at_call 15; (with_reducible refine (HTU.out _).mono ?_); rintro e w8 ⟨rfl, hw8⟩)
      | (go_at_call 11; (with_reducible refine (HSU2.out _).mono ?_); rintro e w9 ⟨rfl, hw9⟩))
    go_ret
    exact ⟨rfl, (((hx4.trans hw5).trans hw6).trans hw8).trans hw9⟩
  · have HC2 := Lib.hid fun w => HCO.out w false (decide_eq_false hin)
    clear HSU HCO hin
    go_enter Try.func4, Try.ntmps4
    go_wp2_with (first
      | (go_at_call 7; (with_reducible refine (HY.out _).mono ?_); rintro e w1 ⟨rfl, hw1⟩)
      | (go_at_call 8; (with_reducible refine (HBI.out _ hw1).mono ?_); rintro e w2 ⟨rfl, hw2⟩
         have hx2 := hw1.trans hw2
         clear HBI)
      | (go_at_call 9; (with_reducible refine (HBY.out _ hx2).mono ?_); rintro e w3 ⟨rfl, hw3⟩
         have hx3 := hx2.trans hw3)
      | (go_at_call 10; (with_reducible refine (HPU.out _).mono ?_); rintro e w4 ⟨rfl, hw4⟩
         have hx4 := hx3.trans hw4)
      | (go_at_call 8; (with_reducible refine (HB2.out _ hx4).mono ?_); rintro e w5 ⟨rfl, hw5⟩)
      | (go_at_call 14; (with_reducible refine (HC2.out _).mono ?_); rintro e w6 ⟨rfl, hw6⟩))
    go_ret
    exact ⟨rfl, (hx4.trans hw5).trans hw6⟩

end Go.Proofs.Ytlpnopliblaknaa
