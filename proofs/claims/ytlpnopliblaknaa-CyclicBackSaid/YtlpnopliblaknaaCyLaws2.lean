/-
  CyclicSums and CyclicOdd, by contracts.
-/
import Derived.Test.YtlpnopliblaknaaCyLaws
import Derived.Deep.CutRange
import Derived.Deep.DeepCutAuto
namespace Go.Proofs.Ytlpnopliblaknaa
open Go.RowKit
open Ln Cy

set_option maxRecDepth 100000 in
set_option maxHeartbeats 1000000 in
theorem cyclicSums_of (HP : CyPutC) (a : Option Addr) (la ca : Nat) (z : List Int) (b : Option Addr) (lb cb : Nat) (y : List Int) (c : Option Addr) (lc cc : Nat) (x : List Int) (w : World) (ha : IsInts .u8 1 w a la ca z) (hb : IsInts .u8 1 w b lb cb y) (hc : IsInts .u8 1 w c lc cc x) :
    Calls Try.prog 5 #[.slice a la ca, .slice b lb cb, .slice c lc cc] w (Says (.bool true) w) := by
  have HY := Lib.hid fun w => cyclics_yes HP w
  obtain ⟨n, hn⟩ : ∃ n : Nat, (if (200 : Int) < (if (lb : Int) < (la : Int) then (lb : Int) else (la : Int)) then (200 : Int) else (if (lb : Int) < (la : Int) then (lb : Int) else (la : Int))) = (n : Int) := by
    refine ⟨(if (200 : Int) < (if (lb : Int) < (la : Int) then (lb : Int) else (la : Int)) then (200 : Int) else (if (lb : Int) < (la : Int) then (lb : Int) else (la : Int))).toNat, ?_⟩
    repeat' split
    all_goals omega
  have hnb : n ≤ la ∧ n ≤ lb ∧ n ≤ 200 := by
    repeat' split at hn
    all_goals omega
  obtain ⟨n1, n2, n3⟩ := hnb
  have hla : la ≤ 140737488351232 := by have := ha.2.1; have := ha.2.2.1; omega
  have hlb : lb ≤ 140737488351232 := by have := hb.2.1; have := hb.2.2.1; omega
  have HN : Hid ((lb < la → 200 < lb → n = 200) ∧ (lb < la → ¬ 200 < lb → n = lb) ∧ (¬ lb < la → 200 < la → n = 200) ∧ (¬ lb < la → ¬ 200 < la → n = la)) := Lib.hid (by
    refine ⟨fun h1 h2 => ?_, fun h1 h2 => ?_, fun h1 h2 => ?_, fun h1 h2 => ?_⟩ <;> (repeat' split at hn) <;> omega)
  clear hn
  have HBA : Hid (∀ w2, Ex w w2 → Calls Try.prog 8 #[.slice a la ca, .int .i64 (n : Int)] w2 (Says (.string (tx (fb z n))) w2)) := Lib.hid fun w2 (k : Ex w w2) => bitsOf_any n (ha.ex k) (by omega)
  have HBB : Hid (∀ w2, Ex w w2 → Calls Try.prog 8 #[.slice b lb cb, .int .i64 (n : Int)] w2 (Says (.string (tx (fb y n))) w2)) := Lib.hid fun w2 (k : Ex w w2) => bitsOf_any n (hb.ex k) (by omega)
  have HBY := Lib.hid fun w2 (k : Ex w w2) => byOf_any (hc.ex k)
  have hB := byl_by x
  have hAl : (fb z n).length = n := by rw [fb_length, ha.1]; omega
  have hCl : (fb y n).length = n := by rw [fb_length, hb.1]; omega
  obtain ⟨A, hA⟩ : ∃ A, fb z n = A := ⟨_, rfl⟩
  obtain ⟨C, hC⟩ : ∃ C, fb y n = C := ⟨_, rfl⟩
  obtain ⟨B, hBB⟩ : ∃ B, byl x = B := ⟨_, rfl⟩
  rw [hA] at HBA hAl
  rw [hC] at HBB hCl
  rw [hBB] at HBY hB
  have hdeg := hB.deg
  have HPA := Lib.hid fun w => HP.ok (l := A) (w := w) (by omega) hB
  have HPC := Lib.hid fun w => HP.ok (l := C) (w := w) (by omega) hB
  have htl := tn_length A C 0
  have HPT := Lib.hid fun w => HP.ok (l := tn A C 0) (w := w) (by omega) hB
  have hsum := chk_sum hB (show A.length = C.length by omega)
  rw [hsum] at HPT
  have hPl : (A ++ chk B A).length = n + dg' B := by rw [List.length_append, chk_length, hAl]
  have hQl : (C ++ chk B C).length = n + dg' B := by rw [List.length_append, chk_length, hCl]
  have HT1 : Hid (∀ w, Calls Try.prog 15 #[.string (tx A), .string (tx C), .int .i64 0] w (Says (.string (tx (tn A C 0))) w)) := Lib.hid fun w => turn_any (l := A) (b := C) (A := 0) (w := w) (by omega) (by omega)
  have HT2 : Hid (∀ w, Calls Try.prog 15 #[.string (tx (A ++ chk B A)), .string (tx (C ++ chk B C)), .int .i64 0] w (Says (.string (tx (tn (A ++ chk B A) (C ++ chk B C) 0))) w)) := Lib.hid fun w => turn_any (l := A ++ chk B A) (b := C ++ chk B C) (A := 0) (w := w) (by omega) (by omega)
  obtain ⟨P, hP⟩ : ∃ P, A ++ chk B A = P := ⟨_, rfl⟩
  obtain ⟨Q, hQ⟩ : ∃ Q, C ++ chk B C = Q := ⟨_, rfl⟩
  rw [hP] at HPA HPT HT2 hPl
  rw [hQ] at HPC HPT HT2 hQl
  obtain ⟨D, hD⟩ : ∃ D, tn A C 0 = D := ⟨_, rfl⟩
  obtain ⟨F, hF⟩ : ∃ F, tn P Q 0 = F := ⟨_, rfl⟩
  rw [hD] at HPT HT1
  rw [hF] at HPT HT2
  have s1 := tx_size P
  have s2 := tx_size Q
  obtain ⟨m, hm⟩ : ∃ m, n + dg' B = m := ⟨_, rfl⟩
  rw [hPl, hm] at s1
  rw [hQl, hm] at s2
  have hm2 : m ≤ 216 := by omega
  have g2 := txl_eq F
  have HGZ := Lib.hid (good_zeros 3 (by omega) #[.int .i64 0, .int .i64 0, .int .i64 0] rfl 26)
  clear HP ha hb hc hA hC hBB hB hsum hP hQ hD hF hPl hQl hAl hCl htl hm hdeg
  go_enter Try.func5, Try.ntmps5
  go_upto_region 3 with (go_at_call 7; (with_reducible refine (HY.out _).mono ?_); rintro e w1 ⟨rfl, hw1⟩)
  go_cut [7] (fun v7 wx => v7 = .int .i64 (n : Int) ∧ w1 = wx)
  case first =>
    by_cases h1 : lb < la
    · by_cases h2 : 200 < lb
      · have e := HN.out.1 h1 h2
        subst e
        go_wp2
        go_meet
        exact ⟨rfl, rfl⟩
      · have e := HN.out.2.1 h1 h2
        subst e
        go_wp2
        go_meet
        exact ⟨rfl, rfl⟩
    · by_cases h2 : 200 < la
      · have e := HN.out.2.2.1 h1 h2
        subst e
        go_wp2
        go_meet
        exact ⟨rfl, rfl⟩
      · have e := HN.out.2.2.2 h1 h2
        subst e
        go_wp2
        go_meet
        exact ⟨rfl, rfl⟩
  case rest =>
  obtain ⟨rfl, rfl⟩ := hcut
  go_wp2_with (first
    | (go_at_call 8; (with_reducible refine (HBA.out _ hw1).mono ?_); rintro e w2 ⟨rfl, hw2⟩
       have hx2 := hw1.trans hw2
       clear HBA)
    | (go_at_call 8; (with_reducible refine (HBB.out _ hx2).mono ?_); rintro e w3 ⟨rfl, hw3⟩
       have hx3 := hx2.trans hw3)
    | (go_at_call 9; (with_reducible refine (HBY.out _ hx3).mono ?_); rintro e w4 ⟨rfl, hw4⟩
       have hx4 := hx3.trans hw4)
    | (go_at_call 10; (with_reducible refine (HPA.out _).mono ?_); rintro e w5 ⟨rfl, hw5⟩; clear HPA)
    | (go_at_call 10; (with_reducible refine (HPC.out _).mono ?_); rintro e w6 ⟨rfl, hw6⟩; clear HPC)
    | (go_at_call 15; (with_reducible refine (HT1.out _).mono ?_); rintro e w7 ⟨rfl, hw7⟩; clear HT1)
    | (go_at_call 10; (with_reducible refine (HPT.out _).mono ?_); rintro e w8 ⟨rfl, hw8⟩)
    | (go_at_call 12; (refine (HGZ.out _).mono ?_); rintro e w9 ⟨rfl, hw9⟩)
    | (go_at_call 15; (with_reducible refine (HT2.out _).mono ?_); rintro e w10 ⟨rfl, hw10⟩))
  go_ret
  exact ⟨rfl, (((((hx4.trans hw5).trans hw6).trans hw7).trans hw8).trans hw9).trans hw10⟩

set_option maxRecDepth 100000 in
set_option maxHeartbeats 1000000 in
theorem cyclicOdd_of (HP : CyPutC) (HG : CyGetC) (a : Option Addr) (la ca : Nat) (z : List Int) (b : Option Addr) (lb cb : Nat) (y : List Int) (c : Option Addr) (lc cc : Nat) (x : List Int) (w : World) (ha : IsInts .u8 1 w a la ca z) (hb : IsInts .u8 1 w b lb cb y) (hc : IsInts .u8 1 w c lc cc x) :
    Calls Try.prog 6 #[.slice a la ca, .slice b lb cb, .slice c lc cc] w (Says (.bool true) w) := by
  have HY := Lib.hid fun w => cyclics_yes HP w
  have HBI : Hid (∀ w2, Ex w w2 → Calls Try.prog 8 #[.slice a la ca, .int .i64 200] w2 (Says (.string (tx (fb z 200))) w2)) := Lib.hid fun w2 (k : Ex w w2) => bitsOf_any 200 (ha.ex k) (by omega)
  have HBY := Lib.hid fun w2 (k : Ex w w2) => byOf_any (hb.ex k)
  have hB := byl_by y
  have hSl := fb_le z 200
  obtain ⟨S, hS⟩ : ∃ S, fb z 200 = S := ⟨_, rfl⟩
  obtain ⟨B, hBB⟩ : ∃ B, byl y = B := ⟨_, rfl⟩
  rw [hS] at HBI hSl
  rw [hBB] at HBY hB
  have HC1 := Lib.hid fun w => count_tx B w
  have hcb : B.count true ≤ 17 := Nat.le_trans List.count_le_length hB.hi
  by_cases hev : B.count true % 2 = 1
  · obtain ⟨o, ho⟩ : ∃ o, B.count true = o := ⟨_, rfl⟩
    rw [ho] at HC1 hev hcb
    have g1 : ((o : Int) % 2 == 1) = true := beq_iff_eq.mpr (by omega)
    clear HP HG ha hb hc hS hBB hB ho hSl hev
    go_enter Try.func6, Try.ntmps6
    go_wp2_with (first
      | (go_at_call 7; (with_reducible refine (HY.out _).mono ?_); rintro e w1 ⟨rfl, hw1⟩)
      | (go_at_call 8; (with_reducible refine (HBI.out _ hw1).mono ?_); rintro e w2 ⟨rfl, hw2⟩
         have hx2 := hw1.trans hw2)
      | (go_at_call 9; (with_reducible refine (HBY.out _ hx2).mono ?_); rintro e w3 ⟨rfl, hw3⟩)
      | (go_at_call 17; (with_reducible refine (HC1.out _).mono ?_); rintro e w4 ⟨rfl, hw4⟩))
    go_ret
    exact ⟨rfl, (hx2.trans hw3).trans hw4⟩
  have hev : B.count true % 2 = 0 := by omega
  have hdeg := hB.deg
  have hcl := chk_length B S
  have hnone := hB.none S
  have hPl : (S ++ chk B S).length = S.length + dg' B := by rw [List.length_append, hcl]
  have HPU := Lib.hid fun w => HP.ok (w := w) hSl hB
  obtain ⟨P, hP⟩ : ∃ P, S ++ chk B S = P := ⟨_, rfl⟩
  rw [hP] at HPU hPl hnone
  have hpo := lf_odd hB hev hnone
  have HC2 := Lib.hid fun w => count_tx P w
  have hcp : P.count true ≤ 216 := Nat.le_trans List.count_le_length (by omega)
  have s1 := tx_size P
  obtain ⟨n, hn⟩ : ∃ n, P.length = n := ⟨_, rfl⟩
  rw [hn] at s1
  have hn216 : n ≤ 216 := by omega
  have HB2 := Lib.hid fun w2 (k : Ex w w2) => bitsOf_any n (hc.ex k) (by omega)
  have hEl := fb_le x n
  obtain ⟨E, hE⟩ : ∃ E, fb x n = E := ⟨_, rfl⟩
  rw [hE] at HB2 hEl
  have HTU : Hid (∀ w, Calls Try.prog 15 #[.string (tx P), .string (tx E), .int .i64 0] w (Says (.string (tx (tn P E 0))) w)) := Lib.hid fun w => turn_any (l := P) (b := E) (A := 0) (w := w) (by omega) (by omega)
  have htl := tn_length P E 0
  have HC3 := Lib.hid fun w => count_tx E w
  have hce : E.count true ≤ 216 := Nat.le_trans List.count_le_length (by omega)
  have hflip := fun h1 => lf_flip hB hev hnone (show E.length ≤ P.length by omega) h1
  obtain ⟨v, er, HGE, hcase⟩ : ∃ (v : ByteArray) (er : Int), Hid (∀ w, Calls Try.prog 11 #[.string (tx (tn P E 0)), .string (tx B)] w (Says (.tuple #[.string v, .int .i64 er]) w)) ∧ (er = 8 ∨ E.count true % 2 = 0) := by
    by_cases h : lf B (tn P E 0) = 0
    · refine ⟨_, 0, Lib.hid fun w => HG.ok (l := tn P E 0) (w := w) (by omega) hB (by omega) h, .inr ?_⟩
      by_cases h1 : E.count true % 2 = 1
      · exact absurd h (hflip h1)
      · omega
    · exact ⟨_, 8, Lib.hid fun w => HG.sum (l := tn P E 0) (w := w) (by omega) hB (by omega) h, .inl rfl⟩
  obtain ⟨T, hT⟩ : ∃ T, tn P E 0 = T := ⟨_, rfl⟩
  rw [hT] at HTU HGE
  obtain ⟨o1, ho1⟩ : ∃ o, B.count true = o := ⟨_, rfl⟩
  obtain ⟨o2, ho2⟩ : ∃ o, P.count true = o := ⟨_, rfl⟩
  obtain ⟨o3, ho3⟩ : ∃ o, E.count true = o := ⟨_, rfl⟩
  rw [ho1] at HC1 hev hcb
  rw [ho2] at HC2 hpo hcp
  rw [ho3] at HC3 hce hcase
  have g1 : ((o1 : Int) % 2 == 1) = false := beq_eq_false_iff_ne.mpr (by omega)
  have g2 : ((o2 : Int) % 2 == 1) = false := beq_eq_false_iff_ne.mpr (by omega)
  clear HP HG ha hb hc hS hBB hB hP hE hT ho1 ho2 ho3 hflip hnone hcl hPl htl hn hev hpo hdeg hSl
  by_cases h8 : o3 % 2 = 0
  · have g3 : ((o3 : Int) % 2 == 0) = true := beq_iff_eq.mpr (by omega)
    clear hcase h8
    go_enter Try.func6, Try.ntmps6
    go_wp2_with (first
      | (go_at_call 7; (with_reducible refine (HY.out _).mono ?_); rintro e w1 ⟨rfl, hw1⟩)
      | (go_at_call 8; (with_reducible refine (HBI.out _ hw1).mono ?_); rintro e w2 ⟨rfl, hw2⟩
         have hx2 := hw1.trans hw2
         clear HBI)
      | (go_at_call 9; (with_reducible refine (HBY.out _ hx2).mono ?_); rintro e w3 ⟨rfl, hw3⟩
         have hx3 := hx2.trans hw3)
      | (go_at_call 17; (with_reducible refine (HC1.out _).mono ?_); rintro e w4 ⟨rfl, hw4⟩; have hx4 := hx3.trans hw4; clear HC1)
      | (go_at_call 10; (with_reducible refine (HPU.out _).mono ?_); rintro e w5 ⟨rfl, hw5⟩; have hx5 := hx4.trans hw5)
      | (go_at_call 17; (with_reducible refine (HC2.out _).mono ?_); rintro e w6 ⟨rfl, hw6⟩; have hx6 := hx5.trans hw6; clear HC2)
      | (go_at_call 8; (with_reducible refine (HB2.out _ hx6).mono ?_); rintro e w7 ⟨rfl, hw7⟩; have hx7 := hx6.trans hw7)
      | (go_at_call 15; (with_reducible refine (HTU.out _).mono ?_); rintro e w8 ⟨rfl, hw8⟩; have hx8 := hx7.trans hw8)
      | (go_at_call 11; (with_reducible refine (HGE.out _).mono ?_); rintro e w9 ⟨rfl, hw9⟩; have hx9 := hx8.trans hw9)
      | (go_at_call 17; (with_reducible refine (HC3.out _).mono ?_); rintro e w10 ⟨rfl, hw10⟩))
    go_ret
    exact ⟨rfl, hx9.trans hw10⟩
  · have g3 : ((o3 : Int) % 2 == 0) = false := beq_eq_false_iff_ne.mpr (by omega)
    obtain rfl : er = 8 := hcase.resolve_right h8
    clear hcase h8
    go_enter Try.func6, Try.ntmps6
    go_wp2_with (first
      | (go_at_call 7; (with_reducible refine (HY.out _).mono ?_); rintro e w1 ⟨rfl, hw1⟩)
      | (go_at_call 8; (with_reducible refine (HBI.out _ hw1).mono ?_); rintro e w2 ⟨rfl, hw2⟩
         have hx2 := hw1.trans hw2
         clear HBI)
      | (go_at_call 9; (with_reducible refine (HBY.out _ hx2).mono ?_); rintro e w3 ⟨rfl, hw3⟩
         have hx3 := hx2.trans hw3)
      | (go_at_call 17; (with_reducible refine (HC1.out _).mono ?_); rintro e w4 ⟨rfl, hw4⟩; have hx4 := hx3.trans hw4; clear HC1)
      | (go_at_call 10; (with_reducible refine (HPU.out _).mono ?_); rintro e w5 ⟨rfl, hw5⟩; have hx5 := hx4.trans hw5)
      | (go_at_call 17; (with_reducible refine (HC2.out _).mono ?_); rintro e w6 ⟨rfl, hw6⟩; have hx6 := hx5.trans hw6; clear HC2)
      | (go_at_call 8; (with_reducible refine (HB2.out _ hx6).mono ?_); rintro e w7 ⟨rfl, hw7⟩; have hx7 := hx6.trans hw7)
      | (go_at_call 15; (with_reducible refine (HTU.out _).mono ?_); rintro e w8 ⟨rfl, hw8⟩; have hx8 := hx7.trans hw8)
      | (go_at_call 11; (with_reducible refine (HGE.out _).mono ?_); rintro e w9 ⟨rfl, hw9⟩; have hx9 := hx8.trans hw9)
      | (go_at_call 17; (with_reducible refine (HC3.out _).mono ?_); rintro e w10 ⟨rfl, hw10⟩))
    go_ret
    exact ⟨rfl, hx9.trans hw10⟩

end Go.Proofs.Ytlpnopliblaknaa
